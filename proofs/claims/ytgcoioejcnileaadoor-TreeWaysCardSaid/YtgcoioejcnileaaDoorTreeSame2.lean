/- DERIVED. Walks: slices.EqualFunc over nodes, Same of package tree, the document's own Same. -/
import Derived.Test.YtgcoioejcnileaaDoorTreeRCan
namespace Go.Proofs.YtgcoioejcnileaaDoor
open Go.RowKit Go.Sort
open PathM TreeM
set_option linter.unusedVariables false

/-- Trees that may be, alike but for the numbers of their nodes. -/
def sameB (a b : Tr) : Bool := checkB a && checkB b && decide ((canonR a).nodes = (canonR b).nodes)

set_option maxHeartbeats 4000000 in
theorem equalFunc_any (v u : Value) (l m : List Nd) (B : Nat) (w : World) (hN : NodesIn w B v l) (hM : NodesIn w B u m) (hB : B ≤ w.heap.size) :
    Calls Tryd.prog 52 #[v, u, .func (.func 29) #[] #[]] w (BelowB (decide (l = m)) w) := by
  unfold BelowB
  by_cases hl : l.length = m.length
  · obtain ⟨hlen, hc1⟩ := (hN.more hB).cases
    obtain ⟨_, hc2⟩ := (hM.more hB).cases
    obtain ⟨A1, c1, rfl⟩ := nodes_len hN
    obtain ⟨A2, c2, rfl⟩ := nodes_len hM
    rw [← nds_eq hl]
    obtain ⟨r, hr⟩ : ∃ r, allTo (fun i => decide (ndAt l i = ndAt m i)) l.length = r := ⟨_, rfl⟩
    rw [hr]
    have hfail : ∀ k, k < l.length → ¬ ndAt l k = ndAt m k → r = false := fun k hk h => by rw [← hr]; exact allTo_not hk (by simpa using h)
    have hl2 := hl
    rw [← hl] at hc2 ⊢
    have HFA := Lib.hid hfail; have HR := Lib.hid hr; have HC1 := Lib.hid hc1; have HC2 := Lib.hid hc2; have HL2 := Lib.hid hl2
    clear hfail hr hc1 hc2 hl2 hl hN hM
    generalize hn : l.length = n at *
    have HN := Lib.hid hn
    clear hn
    go_enter Tryd.func52, Tryd.ntmps52
    go_wp2
    go_loopw [17] (fun i wr => ∃ k : Nat, k ≤ n ∧ i = .int .i64 k ∧ allTo (fun i => decide (ndAt l i = ndAt m i)) k = true ∧ Below w.heap.size w wr) (fun i _ => n - (intOf i).toNat)
    case atStart => exact ⟨0, by omega, rfl, rfl, Below.refl _ _⟩
    case round =>
      obtain ⟨k, hk, rfl, hto, hbe⟩ := hrel
      have HT := Lib.hid hto; have HBE := Lib.hid hbe
      have hwr : w.heap.size ≤ wr.heap.size := hbe.size
      by_cases hlt : k < n
      · obtain ⟨b, off, cc, hA1, hb1, hcells⟩ : ∃ b off cc, Value.slice A1 n c1 = .slice (some ⟨b, off, none⟩) n cc ∧ b < w.heap.size ∧ ∀ k, k < n → NodeIn w w.heap.size b (off + k * 7) (ndAt l k) := by
          rcases HC1.out with ⟨_, _, _, h0⟩ | ⟨b, off, cc, h1, _, h3, _, h2⟩
          · rw [← HN.out, h0] at hlt; exact absurd hlt (by simp)
          · exact ⟨b, off, cc, h1, h3, h2⟩
        obtain ⟨b', off', cc', hA2, hb2, hcells'⟩ : ∃ b off cc, Value.slice A2 n c2 = .slice (some ⟨b, off, none⟩) n cc ∧ b < w.heap.size ∧ ∀ k, k < n → NodeIn w w.heap.size b (off + k * 7) (ndAt m k) := by
          rcases HC2.out with ⟨_, _, _, h0⟩ | ⟨b, off, cc, h1, _, h3, _, h2⟩
          · have : m.length = n := by rw [← HL2.out]
            rw [h0] at this; simp at this; omega
          · exact ⟨b, off, cc, h1, h3, h2⟩
        cases hA1; cases hA2
        obtain ⟨x0, x1, x2, x3, x4, x5, _, ev, x6, hE⟩ := (hcells k hlt).below hb1 hbe
        obtain ⟨y0, y1, y2, y3, y4, y5, _, ev', y6, hF⟩ := (hcells' k hlt).below hb2 hbe
        have hsn := fun W (hW : Below wr.heap.size wr W) => sameNode_any ev ev' (ndAt l k) (ndAt m k) wr.heap.size W ((hE.more hwr).below hW) ((hF.more hwr).below hW) hW.size
        obtain ⟨Ae, ce, rfl, _⟩ := ents_len hE
        obtain ⟨Af, cf, rfl, _⟩ := ents_len hF
        have hkk : (k : Int) < (n : Int) := by omega
        have hbw : b < wr.heap.size := by omega
        have hbw2 : b' < wr.heap.size := by omega
        clear hcells hcells' hE hF hbe hto
        by_cases he : ndAt l k = ndAt m k
        · have HO := Lib.hid (allTo_succ HT.out (show decide (ndAt l k = ndAt m k) = true by simpa using he))
          have hbb : decide (ndAt l k = ndAt m k) = true := by simp [he]
          rw [hbb] at hsn
          unfold BelowB at hsn
          unfold ndV at hsn
          have HSN := Lib.hid hsn
          clear he hbb hsn
          generalize ndAt l k = x at *
          generalize ndAt m k = y at *
          go_wp2_with (go_at_call 29; refine (HSN.out _ (((Below.refl _ _).alloc (by simp) _).alloc (by simp) _)).mono ?_; rintro e w5 ⟨rfl, hb5⟩; have HB5 := Lib.hid (HBE.out.trans (((((Below.refl wr.heap.size wr).alloc (by simp) _).alloc (by simp) _).trans (hb5.mono (by simp; omega))).mono hwr)); clear hb5)
          go_roundw
          case rel => exact ⟨k + 1, by omega, by go_num, HO.out, HB5.out⟩
          case measure => simp [intOf]; omega
        · have HO := Lib.hid (HFA.out k hlt he)
          have hbb : decide (ndAt l k = ndAt m k) = false := by simp [he]
          rw [hbb] at hsn
          unfold BelowB at hsn
          unfold ndV at hsn
          have HSN := Lib.hid hsn
          clear he hbb hsn
          generalize ndAt l k = x at *
          generalize ndAt m k = y at *
          go_wp2_with (go_at_call 29; refine (HSN.out _ (((Below.refl _ _).alloc (by simp) _).alloc (by simp) _)).mono ?_; rintro e w5 ⟨rfl, hb5⟩; have HB5 := Lib.hid (HBE.out.trans (((((Below.refl wr.heap.size wr).alloc (by simp) _).alloc (by simp) _).trans (hb5.mono (by simp; omega))).mono hwr)); clear hb5)
          go_ret
          exact ⟨ret_bool HO.out.symm, HB5.out⟩
      · have hkn : k = n := by omega
        have HO : Hid (true = r) := Lib.hid (by rw [← HR.out, ← hkn]; exact HT.out.symm)
        clear hkn
        go_wp2
        go_ret
        exact ⟨ret_bool HO.out, HBE.out⟩
  · have hr : decide (l = m) = false := by simp; intro h; exact hl (by rw [h])
    rw [hr]
    obtain ⟨A1, c1, rfl⟩ := nodes_len hN
    obtain ⟨A2, c2, rfl⟩ := nodes_len hM
    have q1 : ((l.length : Int) != (m.length : Int)) = true := by simp; omega
    clear hr hN hM hl
    generalize l.length = n at *
    generalize m.length = m at *
    go_enter Tryd.func52, Tryd.ntmps52
    go_wp2
    go_ret
    exact ⟨rfl, Below.refl _ _⟩

/-- Two trees' boxes and what was there before. -/
def C2 (w : World) (tv uv : Array Value) (W : World) : Prop := W.heap[w.heap.size]? = some (.cells tv 26 (0, 0)) ∧ W.heap[w.heap.size + 1]? = some (.cells uv 26 (0, 0)) ∧ Below w.heap.size w W
theorem C2.made (w : World) (tv uv : Array Value) : C2 w tv uv ((w.alloc (.cells tv 26)).alloc (.cells uv 26)) :=
  ⟨heap_alloc2_old w _ _, heap_alloc2_new w _ _, ((Below.refl _ _).alloc (Nat.le_refl _) _).alloc (by simp) _⟩
theorem C2.next {w W W' : World} {tv uv : Array Value} (h : C2 w tv uv W) (hb : Below W.heap.size W W') : C2 w tv uv W' := ⟨(hb.block _ (fin_at h.1)).trans h.1, (hb.block _ (fin_at h.2.1)).trans h.2.1, h.2.2.trans (hb.mono h.2.2.size)⟩
theorem C2.bel {w W : World} {tv uv : Array Value} (h : C2 w tv uv W) : Below w.heap.size w W := h.2.2
theorem four_cells {W : World} {b : Nat} {t0 t1 t2 t3 : Value} {ty : TypeId} (h : W.heap[b]? = some (.cells #[t0, t1, t2, t3] ty (0, 0))) :
    W.cell? ⟨b, 0, none⟩ = some t0 ∧ W.cell? ⟨b, 1, none⟩ = some t1 ∧ W.cell? ⟨b, 2, none⟩ = some t2 ∧ W.cell? ⟨b, 3, none⟩ = some t3 := by
  refine ⟨?_, ?_, ?_, ?_⟩ <;> (rw [cell_blk h]; rfl)
theorem blk_next {W W' : World} {b : Nat} {o : Obj} (h : W.heap[b]? = some o) (hb : Below W.heap.size W W') : W'.heap[b]? = some o := (hb.block _ (fin_at h)).trans h
theorem below_alloc (w : World) (o : Obj) : Below w.heap.size w (w.alloc o) := (Below.refl _ _).alloc (Nat.le_refl _) _
theorem CanonPost.len {t : Tr} {w w' : World} {e : Ending} (h : CanonPost t w e w') : ∃ A c, e = .returned (.tuple #[.agg #[.slice A (canonR t).nodes.length c, .int .i64 (canonR t).last, .int .i64 (canonR t).rn, .int .i64 (canonR t).rb], .int .i64 (checkI t)]) ∧ NodesIn w' w'.heap.size (.slice A (canonR t).nodes.length c) (canonR t).nodes ∧ Below w.heap.size w w' := by
  obtain ⟨nv', rfl, hN, hb⟩ := h
  obtain ⟨A, c, rfl⟩ := nodes_len hN
  exact ⟨A, c, rfl, hN, hb⟩
theorem same_parts {a b : Tr} : sameB a b = if checkI a = 0 then (if checkI b = 0 then decide ((canonR a).nodes = (canonR b).nodes) else false) else false := by
  unfold sameB checkI
  cases checkB a <;> cases checkB b <;> simp
theorem checkI_cases (t : Tr) : checkI t = 0 ∨ checkI t = 80 := by unfold checkI; cases checkB t <;> simp

set_option maxHeartbeats 4000000 in
theorem same_any (nv mv : Value) (a b : Tr) (B : Nat) (w : World) (hN : NodesIn w B nv a.nodes) (hM : NodesIn w B mv b.nodes) (hB : B ≤ w.heap.size) :
    Calls Tryd.prog 30 #[trV nv a, trV mv b] w (BelowB (sameB a b) w) := by
  have hN0 := hN.more hB
  have hM0 := hM.more hB
  obtain ⟨A, c, rfl⟩ := nodes_len hN
  obtain ⟨A', c', rfl⟩ := nodes_len hM
  rw [same_parts]
  have ha := checkI_cases a
  have hbb := checkI_cases b
  unfold BelowB
  unfold trV at *
  have hca := fun W (hW : Below w.heap.size w W) => (canon_any _ a w.heap.size W (hN0.below hW) hW.size).mono fun _ _ h => h.len
  have hcb := fun W (hW : Below w.heap.size w W) => (canon_any _ b w.heap.size W (hM0.below hW) hW.size).mono fun _ _ h => h.len
  have heq := fun v u W B' h1 h2 h3 => equalFunc_any v u (canonR a).nodes (canonR b).nodes B' W h1 h2 h3
  unfold BelowB at heq
  unfold trV at hca hcb
  have HCA := Lib.hid hca; have HCB := Lib.hid hcb; have HEQ := Lib.hid heq
  clear hca hcb heq hN hM hN0 hM0
  generalize checkI a = ka at *
  generalize checkI b = kb at *
  generalize canonR a = ca at *
  generalize canonR b = cb at *
  generalize a.nodes.length = n at *
  generalize a.last = la at *
  generalize a.rn = rn at *
  generalize a.rb = rb at *
  generalize b.nodes.length = n' at *
  generalize b.last = la' at *
  generalize b.rn = rn' at *
  generalize b.rb = rb' at *
  have H0 := Lib.hid (C2.made w #[.slice A n c, .int .i64 la, .int .i64 rn, .int .i64 rb] #[.slice A' n' c', .int .i64 la', .int .i64 rn', .int .i64 rb'])
  rcases ha with rfl | rfl
  · rcases hbb with rfl | rfl
    · rw [if_pos rfl, if_pos rfl]
      obtain ⟨r, hr⟩ : ∃ r, decide (ca.nodes = cb.nodes) = r := ⟨_, rfl⟩
      have HR := Lib.hid hr
      clear hr
      rw [HR.out] at HEQ ⊢
      first | (go_enter Tryd.func30, Tryd.ntmps30) | (go_enter Tryd.func31, Tryd.ntmps31)
      go_wp2_with fail
      refine (HCA.out _ H0.out.bel).mono ?_
      rintro e w1 ⟨A1, c1, rfl, hN1, hb1⟩
      have H1 := Lib.hid (H0.out.next hb1)
      have HN1 := Lib.hid hN1
      obtain ⟨i0, i1, i2, i3⟩ := four_cells H1.out.2.1
      have hs1 := fin_at H1.out.2.1
      clear hb1 hN1
      go_wp2_with fail
      refine (HCB.out _ (H1.out.next (below_alloc _ _)).bel).mono ?_
      rintro e w2 ⟨A2, c2, rfl, hN2, hb2⟩
      have H2 := Lib.hid ((H1.out.next (below_alloc _ _)).next hb2)
      have HN2 := Lib.hid hN2
      have hA1 := (hb2.block _ (alloc_lt w1 _)).trans (heap_alloc_new w1 _)
      have HN1b := Lib.hid ((HN1.out.below ((below_alloc w1 _).trans (hb2.mono (Nat.le_of_lt (alloc_lt _ _))))))
      have hs12 : w1.heap.size < w2.heap.size := fin_at hA1
      have HF1 := Lib.hid (((HN1b.out.more (Nat.le_of_lt hs12)).below (below_alloc w2 (.cells #[.slice A2 cb.nodes.length c2, .int .i64 cb.last, .int .i64 cb.rn, .int .i64 cb.rb] 26))))
      have HF2 := Lib.hid ((HN2.out.below (below_alloc w2 (.cells #[.slice A2 cb.nodes.length c2, .int .i64 cb.last, .int .i64 cb.rn, .int .i64 cb.rb] 26))))
      have H3 := Lib.hid (H2.out.next (below_alloc w2 (.cells #[.slice A2 cb.nodes.length c2, .int .i64 cb.last, .int .i64 cb.rn, .int .i64 cb.rb] 26)))
      obtain ⟨j0, -, -, -⟩ := four_cells (blk_next hA1 (below_alloc w2 (.cells #[.slice A2 cb.nodes.length c2, .int .i64 cb.last, .int .i64 cb.rn, .int .i64 cb.rb] 26)))
      clear hb2 hN2 hA1
      go_wp2_with fail
      refine (HEQ.out _ _ _ w2.heap.size HF1.out HF2.out (Nat.le_of_lt (alloc_lt _ _))).mono ?_
      rintro e w4 ⟨rfl, hb4⟩
      have H4 := Lib.hid (H3.out.next hb4)
      clear hb4
      go_wp2
      go_ret
      exact ⟨rfl, H4.out.bel⟩
    · rw [if_pos rfl, if_neg (by decide)]
      first | (go_enter Tryd.func30, Tryd.ntmps30) | (go_enter Tryd.func31, Tryd.ntmps31)
      go_wp2_with fail
      refine (HCA.out _ H0.out.bel).mono ?_
      rintro e w1 ⟨A1, c1, rfl, hN1, hb1⟩
      have H1 := Lib.hid (H0.out.next hb1)
      have HN1 := Lib.hid hN1
      obtain ⟨i0, i1, i2, i3⟩ := four_cells H1.out.2.1
      have hs1 := fin_at H1.out.2.1
      clear hb1 hN1
      go_wp2_with fail
      refine (HCB.out _ (H1.out.next (below_alloc _ _)).bel).mono ?_
      rintro e w2 ⟨A2, c2, rfl, hN2, hb2⟩
      have H2 := Lib.hid ((H1.out.next (below_alloc _ _)).next hb2)
      have HN2 := Lib.hid hN2
      have hA1 := (hb2.block _ (alloc_lt w1 _)).trans (heap_alloc_new w1 _)
      have HN1b := Lib.hid ((HN1.out.below ((below_alloc w1 _).trans (hb2.mono (Nat.le_of_lt (alloc_lt _ _))))))
      have hs12 : w1.heap.size < w2.heap.size := fin_at hA1
      have HF1 := Lib.hid (((HN1b.out.more (Nat.le_of_lt hs12)).below (below_alloc w2 (.cells #[.slice A2 cb.nodes.length c2, .int .i64 cb.last, .int .i64 cb.rn, .int .i64 cb.rb] 26))))
      have HF2 := Lib.hid ((HN2.out.below (below_alloc w2 (.cells #[.slice A2 cb.nodes.length c2, .int .i64 cb.last, .int .i64 cb.rn, .int .i64 cb.rb] 26))))
      have H3 := Lib.hid (H2.out.next (below_alloc w2 (.cells #[.slice A2 cb.nodes.length c2, .int .i64 cb.last, .int .i64 cb.rn, .int .i64 cb.rb] 26)))
      obtain ⟨j0, -, -, -⟩ := four_cells (blk_next hA1 (below_alloc w2 (.cells #[.slice A2 cb.nodes.length c2, .int .i64 cb.last, .int .i64 cb.rn, .int .i64 cb.rb] 26)))
      clear hb2 hN2 hA1
      go_wp2
      go_ret
      exact ⟨rfl, H3.out.bel⟩
  · rw [if_neg (by decide)]
    first | (go_enter Tryd.func30, Tryd.ntmps30) | (go_enter Tryd.func31, Tryd.ntmps31)
    go_wp2_with fail
    refine (HCA.out _ H0.out.bel).mono ?_
    rintro e w1 ⟨A1, c1, rfl, hN1, hb1⟩
    have H1 := Lib.hid (H0.out.next hb1)
    have HN1 := Lib.hid hN1
    obtain ⟨i0, i1, i2, i3⟩ := four_cells H1.out.2.1
    have hs1 := fin_at H1.out.2.1
    clear hb1 hN1
    go_wp2_with fail
    refine (HCB.out _ (H1.out.next (below_alloc _ _)).bel).mono ?_
    rintro e w2 ⟨A2, c2, rfl, hN2, hb2⟩
    have H2 := Lib.hid ((H1.out.next (below_alloc _ _)).next hb2)
    have HN2 := Lib.hid hN2
    have hA1 := (hb2.block _ (alloc_lt w1 _)).trans (heap_alloc_new w1 _)
    have HN1b := Lib.hid ((HN1.out.below ((below_alloc w1 _).trans (hb2.mono (Nat.le_of_lt (alloc_lt _ _))))))
    have hs12 : w1.heap.size < w2.heap.size := fin_at hA1
    have HF1 := Lib.hid (((HN1b.out.more (Nat.le_of_lt hs12)).below (below_alloc w2 (.cells #[.slice A2 cb.nodes.length c2, .int .i64 cb.last, .int .i64 cb.rn, .int .i64 cb.rb] 26))))
    have HF2 := Lib.hid ((HN2.out.below (below_alloc w2 (.cells #[.slice A2 cb.nodes.length c2, .int .i64 cb.last, .int .i64 cb.rn, .int .i64 cb.rb] 26))))
    have H3 := Lib.hid (H2.out.next (below_alloc w2 (.cells #[.slice A2 cb.nodes.length c2, .int .i64 cb.last, .int .i64 cb.rn, .int .i64 cb.rb] 26)))
    obtain ⟨j0, -, -, -⟩ := four_cells (blk_next hA1 (below_alloc w2 (.cells #[.slice A2 cb.nodes.length c2, .int .i64 cb.last, .int .i64 cb.rn, .int .i64 cb.rb] 26)))
    clear hb2 hN2 hA1
    go_wp2
    go_ret
    exact ⟨rfl, H3.out.bel⟩
set_option maxHeartbeats 4000000 in
theorem rsame_any (nv mv : Value) (a b : Tr) (B : Nat) (w : World) (hN : NodesIn w B nv a.nodes) (hM : NodesIn w B mv b.nodes) (hB : B ≤ w.heap.size) :
    Calls Tryd.prog 31 #[trV nv a, trV mv b] w (BelowB (sameB a b) w) := by
  have hN0 := hN.more hB
  have hM0 := hM.more hB
  obtain ⟨A, c, rfl⟩ := nodes_len hN
  obtain ⟨A', c', rfl⟩ := nodes_len hM
  rw [same_parts]
  have ha := checkI_cases a
  have hbb := checkI_cases b
  unfold BelowB
  unfold trV at *
  have hca := fun W (hW : Below w.heap.size w W) => (rcanon_any _ a w.heap.size W (hN0.below hW) hW.size).mono fun _ _ h => h.len
  have hcb := fun W (hW : Below w.heap.size w W) => (rcanon_any _ b w.heap.size W (hM0.below hW) hW.size).mono fun _ _ h => h.len
  have heq := fun v u W B' h1 h2 h3 => rnodes_any v u (canonR a).nodes (canonR b).nodes B' W h1 h2 h3
  unfold BelowB at heq
  unfold trV at hca hcb
  have HCA := Lib.hid hca; have HCB := Lib.hid hcb; have HEQ := Lib.hid heq
  clear hca hcb heq hN hM hN0 hM0
  generalize checkI a = ka at *
  generalize checkI b = kb at *
  generalize canonR a = ca at *
  generalize canonR b = cb at *
  generalize a.nodes.length = n at *
  generalize a.last = la at *
  generalize a.rn = rn at *
  generalize a.rb = rb at *
  generalize b.nodes.length = n' at *
  generalize b.last = la' at *
  generalize b.rn = rn' at *
  generalize b.rb = rb' at *
  have H0 := Lib.hid (C2.made w #[.slice A n c, .int .i64 la, .int .i64 rn, .int .i64 rb] #[.slice A' n' c', .int .i64 la', .int .i64 rn', .int .i64 rb'])
  rcases ha with rfl | rfl
  · rcases hbb with rfl | rfl
    · rw [if_pos rfl, if_pos rfl]
      obtain ⟨r, hr⟩ : ∃ r, decide (ca.nodes = cb.nodes) = r := ⟨_, rfl⟩
      have HR := Lib.hid hr
      clear hr
      rw [HR.out] at HEQ ⊢
      first | (go_enter Tryd.func30, Tryd.ntmps30) | (go_enter Tryd.func31, Tryd.ntmps31)
      go_wp2_with fail
      refine (HCA.out _ H0.out.bel).mono ?_
      rintro e w1 ⟨A1, c1, rfl, hN1, hb1⟩
      have H1 := Lib.hid (H0.out.next hb1)
      have HN1 := Lib.hid hN1
      obtain ⟨i0, i1, i2, i3⟩ := four_cells H1.out.2.1
      have hs1 := fin_at H1.out.2.1
      clear hb1 hN1
      go_wp2_with fail
      refine (HCB.out _ (H1.out.next (below_alloc _ _)).bel).mono ?_
      rintro e w2 ⟨A2, c2, rfl, hN2, hb2⟩
      have H2 := Lib.hid ((H1.out.next (below_alloc _ _)).next hb2)
      have HN2 := Lib.hid hN2
      have hA1 := (hb2.block _ (alloc_lt w1 _)).trans (heap_alloc_new w1 _)
      have HN1b := Lib.hid ((HN1.out.below ((below_alloc w1 _).trans (hb2.mono (Nat.le_of_lt (alloc_lt _ _))))))
      have hs12 : w1.heap.size < w2.heap.size := fin_at hA1
      have HF1 := Lib.hid (((HN1b.out.more (Nat.le_of_lt hs12)).below (below_alloc w2 (.cells #[.slice A2 cb.nodes.length c2, .int .i64 cb.last, .int .i64 cb.rn, .int .i64 cb.rb] 26))))
      have HF2 := Lib.hid ((HN2.out.below (below_alloc w2 (.cells #[.slice A2 cb.nodes.length c2, .int .i64 cb.last, .int .i64 cb.rn, .int .i64 cb.rb] 26))))
      have H3 := Lib.hid (H2.out.next (below_alloc w2 (.cells #[.slice A2 cb.nodes.length c2, .int .i64 cb.last, .int .i64 cb.rn, .int .i64 cb.rb] 26)))
      obtain ⟨j0, -, -, -⟩ := four_cells (blk_next hA1 (below_alloc w2 (.cells #[.slice A2 cb.nodes.length c2, .int .i64 cb.last, .int .i64 cb.rn, .int .i64 cb.rb] 26)))
      clear hb2 hN2 hA1
      go_wp2_with fail
      refine (HEQ.out _ _ _ w2.heap.size HF1.out HF2.out (Nat.le_of_lt (alloc_lt _ _))).mono ?_
      rintro e w4 ⟨rfl, hb4⟩
      have H4 := Lib.hid (H3.out.next hb4)
      clear hb4
      go_wp2
      go_ret
      exact ⟨rfl, H4.out.bel⟩
    · rw [if_pos rfl, if_neg (by decide)]
      first | (go_enter Tryd.func30, Tryd.ntmps30) | (go_enter Tryd.func31, Tryd.ntmps31)
      go_wp2_with fail
      refine (HCA.out _ H0.out.bel).mono ?_
      rintro e w1 ⟨A1, c1, rfl, hN1, hb1⟩
      have H1 := Lib.hid (H0.out.next hb1)
      have HN1 := Lib.hid hN1
      obtain ⟨i0, i1, i2, i3⟩ := four_cells H1.out.2.1
      have hs1 := fin_at H1.out.2.1
      clear hb1 hN1
      go_wp2_with fail
      refine (HCB.out _ (H1.out.next (below_alloc _ _)).bel).mono ?_
      rintro e w2 ⟨A2, c2, rfl, hN2, hb2⟩
      have H2 := Lib.hid ((H1.out.next (below_alloc _ _)).next hb2)
      have HN2 := Lib.hid hN2
      have hA1 := (hb2.block _ (alloc_lt w1 _)).trans (heap_alloc_new w1 _)
      have HN1b := Lib.hid ((HN1.out.below ((below_alloc w1 _).trans (hb2.mono (Nat.le_of_lt (alloc_lt _ _))))))
      have hs12 : w1.heap.size < w2.heap.size := fin_at hA1
      have HF1 := Lib.hid (((HN1b.out.more (Nat.le_of_lt hs12)).below (below_alloc w2 (.cells #[.slice A2 cb.nodes.length c2, .int .i64 cb.last, .int .i64 cb.rn, .int .i64 cb.rb] 26))))
      have HF2 := Lib.hid ((HN2.out.below (below_alloc w2 (.cells #[.slice A2 cb.nodes.length c2, .int .i64 cb.last, .int .i64 cb.rn, .int .i64 cb.rb] 26))))
      have H3 := Lib.hid (H2.out.next (below_alloc w2 (.cells #[.slice A2 cb.nodes.length c2, .int .i64 cb.last, .int .i64 cb.rn, .int .i64 cb.rb] 26)))
      obtain ⟨j0, -, -, -⟩ := four_cells (blk_next hA1 (below_alloc w2 (.cells #[.slice A2 cb.nodes.length c2, .int .i64 cb.last, .int .i64 cb.rn, .int .i64 cb.rb] 26)))
      clear hb2 hN2 hA1
      go_wp2
      go_ret
      exact ⟨rfl, H3.out.bel⟩
  · rw [if_neg (by decide)]
    first | (go_enter Tryd.func30, Tryd.ntmps30) | (go_enter Tryd.func31, Tryd.ntmps31)
    go_wp2_with fail
    refine (HCA.out _ H0.out.bel).mono ?_
    rintro e w1 ⟨A1, c1, rfl, hN1, hb1⟩
    have H1 := Lib.hid (H0.out.next hb1)
    have HN1 := Lib.hid hN1
    obtain ⟨i0, i1, i2, i3⟩ := four_cells H1.out.2.1
    have hs1 := fin_at H1.out.2.1
    clear hb1 hN1
    go_wp2_with fail
    refine (HCB.out _ (H1.out.next (below_alloc _ _)).bel).mono ?_
    rintro e w2 ⟨A2, c2, rfl, hN2, hb2⟩
    have H2 := Lib.hid ((H1.out.next (below_alloc _ _)).next hb2)
    have HN2 := Lib.hid hN2
    have hA1 := (hb2.block _ (alloc_lt w1 _)).trans (heap_alloc_new w1 _)
    have HN1b := Lib.hid ((HN1.out.below ((below_alloc w1 _).trans (hb2.mono (Nat.le_of_lt (alloc_lt _ _))))))
    have hs12 : w1.heap.size < w2.heap.size := fin_at hA1
    have HF1 := Lib.hid (((HN1b.out.more (Nat.le_of_lt hs12)).below (below_alloc w2 (.cells #[.slice A2 cb.nodes.length c2, .int .i64 cb.last, .int .i64 cb.rn, .int .i64 cb.rb] 26))))
    have HF2 := Lib.hid ((HN2.out.below (below_alloc w2 (.cells #[.slice A2 cb.nodes.length c2, .int .i64 cb.last, .int .i64 cb.rn, .int .i64 cb.rb] 26))))
    have H3 := Lib.hid (H2.out.next (below_alloc w2 (.cells #[.slice A2 cb.nodes.length c2, .int .i64 cb.last, .int .i64 cb.rn, .int .i64 cb.rb] 26)))
    obtain ⟨j0, -, -, -⟩ := four_cells (blk_next hA1 (below_alloc w2 (.cells #[.slice A2 cb.nodes.length c2, .int .i64 cb.last, .int .i64 cb.rn, .int .i64 cb.rb] 26)))
    clear hb2 hN2 hA1
    go_wp2
    go_ret
    exact ⟨rfl, H3.out.bel⟩

end Go.Proofs.YtgcoioejcnileaaDoor
