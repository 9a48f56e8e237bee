/- DERIVED. The law VtreeBinds: entries in which a name leads to another node, or to none. -/
import Derived.Test.YtpicgkoclbpjpaaGreatDoorVtG12
import Derived.Test.YtpicgkoclbpjpaaGreatDoorVtG7
import Derived.Test.YtpicgkoclbpjpaaGreatDoorVtG5
import Derived.Test.YtpicgkoclbpjpaaGreatDoorVtG4
import Derived.Lib.QuietBelow
import Derived.Deep.LoopGhost
namespace Go.Proofs.YtpicgkoclbpjpaaGreatDoor
open Go.RowKit Go.Sort Go.Lib Go.Shelf
open PathM TreeM VtM
set_option linter.unusedVariables false
attribute [local go_sem] cell_rg
theorem ents_at {w : World} {B n c : Nat} {A : Option Addr} {es : List Ent} (h : EntsIn w B (.slice A n c) es) {k : Nat} (hk : k < es.length) :
    ∃ b off, A = some ⟨b, off, none⟩ ∧ b < B ∧ w.cell? ⟨b, off + k * 2, none⟩ = some (.string (nm (entAt es k).key)) ∧ w.cell? ⟨b, off + k * 2 + 1, none⟩ = some (.int .i64 (entAt es k).to) := by
  obtain ⟨A', c', e, _, _, _, h5⟩ := h
  cases e
  obtain ⟨b, off, h6, h7, h8⟩ := h5 (by rintro rfl; simp at hk)
  exact ⟨b, off, h6, h7, h8 k hk⟩
/-- The tree's box and what was there before. -/
def CB (w : World) (tv : Array Value) (W : World) : Prop := W.heap[w.heap.size]? = some (.cells tv 26 (0, 0)) ∧ Below w.heap.size w W
theorem CB.next {w W W' : World} {tv : Array Value} (h : CB w tv W) (hb : Below W.heap.size W W') : CB w tv W' := ⟨(hb.block _ (fin_at h.1)).trans h.1, h.2.trans (hb.mono h.2.size)⟩
theorem CB.cells {w W : World} {t0 t1 t2 t3 : Value} (h : CB w #[t0, t1, t2, t3] W) : W.cell? ⟨w.heap.size, 0, none⟩ = some t0 ∧ W.cell? ⟨w.heap.size, 1, none⟩ = some t1 ∧ W.cell? ⟨w.heap.size, 2, none⟩ = some t2 ∧ W.cell? ⟨w.heap.size, 3, none⟩ = some t3 := by
  refine ⟨?_, ?_, ?_, ?_⟩ <;> (rw [cell_blk h.1]; rfl)
/-- What the law holds in its loops. -/
structure BD (w : World) (bn : Nat) (nv : Array Value) (ev lv : Value) (es l : List Ent) (W : World) : Prop where
  node : W.heap[bn]? = some (.cells nv 64 (0, 0))
  below : Below w.heap.size w W
  es : EntsIn W W.heap.size ev es
  l : EntsIn W W.heap.size lv l
theorem BD.next {w W W' : World} {bn : Nat} {nv : Array Value} {ev lv : Value} {es l : List Ent} (h : BD w bn nv ev lv es l W) (hb : Below W.heap.size W W') : BD w bn nv ev lv es l W' :=
  ⟨(hb.block _ (fin_at h.node)).trans h.node, h.below.trans (hb.mono h.below.size), (h.es.below hb).more hb.size, (h.l.below hb).more hb.size⟩
theorem small_ents {t : Tr} (h : smallB t = true) (hl : t.nodes.length ≤ 512) {r : Nat} (hr : r < t.nodes.length) : (ndAt t.nodes r).es.length ≤ 200 := by
  unfold smallB at h
  simp only [Bool.and_eq_true, Bool.or_eq_true, decide_eq_true_eq] at h
  obtain ⟨_, h1, h2⟩ := h
  have h3 : t.nodes.length ≤ 60 := by omega
  have := allTo_iff.1 h1 r (by omega)
  simp [okSm] at this
  exact this.1
set_option maxRecDepth 100000 in
set_option maxHeartbeats 16000000 in
theorem binds_law (nv : Value) (t : Tr) (which : Nat) (key : ByteArray) (id : Int) (w : World) (hN : NodesIn w w.heap.size nv t.nodes) (hwh : which ≤ 18446744073709551615) (hid : i64 id) (hM : ∃ m, w.cell? ⟨0, 0, none⟩ = some (.int .i64 m)) :
    Calls Tryz.prog 7 #[trV nv t, .int .u64 (which : Int), .string key, .int .i64 id] w fun e w' => e = .returned (.bool true) ∧ Below w.heap.size w w' := by
  have hN0 := hN
  have HM : Hid (∀ W, Below w.heap.size w W → ∃ m, W.cell? ⟨0, 0, none⟩ = some (.int .i64 m)) := Lib.hid (fun W hW => by
    obtain ⟨m, hm⟩ := hM
    exact ⟨m, (hW.cell (p := ⟨0, 0, none⟩) (cell_lt hm)).trans hm⟩)
  clear hM
  have hsm := fun W (hW : Below w.heap.size w W) => small_any nv t w.heap.size W (hN0.below hW) hW.size
  have hrc := fun W (hW : Below w.heap.size w W) => rcheck_any nv t w.heap.size W (hN0.below hW) hW.size
  have hc1 : ∀ tv : Array Value, CB w tv (w.alloc (.cells tv 26)) := fun tv => ⟨heap_alloc_new w _, (Below.refl _ _).alloc (Nat.le_refl _) _⟩
  unfold BelowB at hsm
  cases hs : smallB t with
  | false =>
    obtain ⟨A, c, rfl⟩ := nodes_len hN
    rw [hs] at hsm
    have HSM := Lib.hid hsm
    clear hsm hrc hN hN0 hs
    unfold trV at *
    generalize hnl : t.nodes.length = n at *
    have HNL := Lib.hid hnl
    clear hnl
    generalize t.last = la at *
    generalize t.rn = tn at *
    generalize t.rb = tb at *
    have H0 := Lib.hid (hc1 #[.slice A n c, .int .i64 la, .int .i64 tn, .int .i64 tb])
    clear hc1
    go_enter Tryz.func7, Tryz.ntmps7
    go_wp2_with (go_at_call 9; refine (HSM.out _ H0.out.2).mono ?_; rintro e w1 ⟨rfl, hb1⟩; have H1 := Lib.hid (H0.out.next hb1); obtain ⟨d0, d1, d2, d3⟩ := H1.out.cells; clear hb1)
    have HBB := Lib.hid H1.out.2
    go_wp2_with (go_at_call 10; (with_reducible refine (awake5_any _ (HM.out _ HBB.out)).mono ?_); rintro e w9 ⟨rfl, hb9⟩; have HB9 := Lib.hid (HBB.out.trans (hb9.mono HBB.out.size)); clear hb9)
    go_ret
    exact ⟨rfl, HB9.out⟩
  | true =>
    rw [hs] at hsm
    cases hb : checkB t with
    | false =>
      have hck : checkI t = 80 := by unfold checkI; rw [hb]; rfl
      rw [hck] at hrc
      obtain ⟨A, c, rfl⟩ := nodes_len hN
      have HSM := Lib.hid hsm; have HRC := Lib.hid hrc
      clear hsm hrc hN hN0 hs hb hck
      unfold trV at *
      generalize hnl : t.nodes.length = n at *
      have HNL := Lib.hid hnl
      clear hnl
      generalize t.last = la at *
      generalize t.rn = tn at *
      generalize t.rb = tb at *
      have H0 := Lib.hid (hc1 #[.slice A n c, .int .i64 la, .int .i64 tn, .int .i64 tb])
      clear hc1
      go_enter Tryz.func7, Tryz.ntmps7
      go_wp2_with (go_at_call 9; refine (HSM.out _ H0.out.2).mono ?_; rintro e w1 ⟨rfl, hb1⟩; have H1 := Lib.hid (H0.out.next hb1); obtain ⟨d0, d1, d2, d3⟩ := H1.out.cells; clear hb1)
      go_wp2_with fail
      refine (HRC.out _ H1.out.2).mono ?_
      rintro e w2 ⟨rfl, hb2⟩
      have H2 := Lib.hid (H1.out.next hb2)
      clear hb2
      have HBB := Lib.hid H2.out.2
      go_wp2_with (go_at_call 10; (with_reducible refine (awake5_any _ (HM.out _ HBB.out)).mono ?_); rintro e w9 ⟨rfl, hb9⟩; have HB9 := Lib.hid (HBB.out.trans (hb9.mono HBB.out.size)); clear hb9)
      go_ret
      exact ⟨rfl, HB9.out⟩
    | true =>
      have hck : checkI t = 0 := by unfold checkI; rw [hb]; rfl
      rw [hck] at hrc
      obtain ⟨hri, hn, hpos, _, _, hwl, hents⟩ := check_facts hb
      obtain ⟨r, hr⟩ : ∃ r, which % t.nodes.length = r := ⟨_, rfl⟩
      have hrl : r < t.nodes.length := by rw [← hr]; exact Nat.mod_lt _ hpos
      have hsrt := sorted_of_ents (hents r hrl)
      have hes2 := small_ents hs hn hrl
      obtain ⟨_, h0 | ⟨b, off, c, rfl, hcap, hbB, _, hnodes⟩⟩ := hN0.cases
      · obtain ⟨_, _, _, h0⟩ := h0; rw [h0] at hpos; exact absurd hpos (by simp)
      obtain ⟨n0, n1, n2, n3, n4, n5, _, ev, n6, hE⟩ := hnodes r hrl
      have hqn : (which : Int) % (t.nodes.length : Int) = (r : Int) := by rw [← hr]; omega
      have HSM := Lib.hid hsm; have HRC := Lib.hid hrc; have HQ := Lib.hid hqn; have HSRT := Lib.hid hsrt
      clear hsm hrc hqn hN hN0 hs hb hck hri hwl hents hr hsrt hnodes
      generalize ndAt t.nodes r = nd at *
      unfold trV at *
      generalize hnl : t.nodes.length = n at *
      have HNL := Lib.hid hnl
      clear hnl
      generalize t.last = la at *
      generalize t.rn = tn at *
      generalize t.rb = tb at *
      have H0 := Lib.hid (hc1 #[.slice (some ⟨b, off, none⟩) n c, .int .i64 la, .int .i64 tn, .int .i64 tb])
      clear hc1
      go_enter Tryz.func7, Tryz.ntmps7
      go_wp2_with (go_at_call 9; refine (HSM.out _ H0.out.2).mono ?_; rintro e w1 ⟨rfl, hb1⟩; have H1 := Lib.hid (H0.out.next hb1); obtain ⟨d0, d1, d2, d3⟩ := H1.out.cells; clear hb1)
      go_wp2_with fail
      refine (HRC.out _ H1.out.2).mono ?_
      rintro e w2 ⟨rfl, hb2⟩
      have H2 := Lib.hid (H1.out.next hb2)
      obtain ⟨e0, e1, e2, e3⟩ := H2.out.cells
      clear hb2 d0 d1 d2 d3
      by_cases hks : key.size ≤ 1000
      · have g0 := (H2.out.2.cell (p := ⟨b, off + r * 7, none⟩) hbB).trans n0
        have g1 := (H2.out.2.cell (p := ⟨b, off + r * 7 + 1, none⟩) hbB).trans n1
        have g2 := (H2.out.2.cell (p := ⟨b, off + r * 7 + 2, none⟩) hbB).trans n2
        have g3 := (H2.out.2.cell (p := ⟨b, off + r * 7 + 3, none⟩) hbB).trans n3
        have g4 := (H2.out.2.cell (p := ⟨b, off + r * 7 + 4, none⟩) hbB).trans n4
        have g5 := (H2.out.2.cell (p := ⟨b, off + r * 7 + 5, none⟩) hbB).trans n5
        have g6 := (H2.out.2.cell (p := ⟨b, off + r * 7 + 6, none⟩) hbB).trans n6
        have hE2 := hE.below H2.out.2
        have hrl2 : (r : Int) < (n : Int) := by omega
        have hwi : (0 : Int) ≤ (which : Int) := by omega
        have hks2 : ¬ (1000 : Int) < (key.size : Int) := by omega
        have hks3 : key.data.toList.length ≤ 140737488351232 := by rw [← sizeD]; omega
        obtain ⟨Ae, ce, rfl, _⟩ := ents_len hE2
        have hent := (hE2.more H2.out.2.size)
        have HE2 := Lib.hid hent
        have hl2 : w.heap.size < w2.heap.size := fin_at H2.out.1
        have hbw : b < w2.heap.size := by omega
        clear n0 n1 n2 n3 n4 n5 n6 hE hE2 hent
        generalize nd.id = p0 at *
        generalize nd.kind = p1 at *
        generalize nd.mode = p2 at *
        generalize nd.owner = p3 at *
        generalize nd.time = p4 at *
        generalize nm nd.data = p5 at *
        generalize nd.es = es at *
        go_wp2_with fail
        have hq := HQ.out
        go_region
        clear hq e0 e1 e2 e3 g0 g1 g2 g3 g4 g5 g6
        have hbx : (w2.alloc (.cells #[.int .i64 p0, .int .i64 p1, .int .i64 p2, .int .i64 p3, .int .i64 p4, .string p5, .slice Ae es.length ce] 64)).drew.heap[w2.heap.size]? = some (.cells #[.int .i64 p0, .int .i64 p1, .int .i64 p2, .int .i64 p3, .int .i64 p4, .string p5, .slice Ae es.length ce] 64 (0, 0)) := heap_alloc_new w2 _
        have hbb3 : Below w2.heap.size w2 (w2.alloc (.cells #[.int .i64 p0, .int .i64 p1, .int .i64 p2, .int .i64 p3, .int .i64 p4, .string p5, .slice Ae es.length ce] 64)).drew := ((Below.refl _ _).alloc (Nat.le_refl _) _).drew
        have HBX := Lib.hid hbx
        have H3 := Lib.hid (H2.out.2.trans (hbb3.mono H2.out.2.size))
        have HE3 := Lib.hid ((HE2.out.below hbb3).more hbb3.size)
        clear hbx hbb3
        generalize (w2.alloc (.cells #[.int .i64 p0, .int .i64 p1, .int .i64 p2, .int .i64 p3, .int .i64 p4, .string p5, .slice Ae es.length ce] 64)).drew = w3 at *
        generalize w2.heap.size = bn at *
        have m6 := cell_blk HBX.out 6
        simp at m6
        go_wp2_with (go_at_call 33; (with_reducible refine (bound_any _ es key id _ HE3.out HSRT.out hks3 hid (by omega)).mono ?_); rintro e w4 ⟨lv, rfl, hl4, hb4⟩; have HD0 : Hid (BD w bn #[.int .i64 p0, .int .i64 p1, .int .i64 p2, .int .i64 p3, .int .i64 p4, .string p5, .slice Ae es.length ce] (.slice Ae es.length ce) lv es _ w4) := Lib.hid ⟨(hb4.block _ (fin_at HBX.out)).trans HBX.out, H3.out.trans (hb4.mono H3.out.size), (HE3.out.below hb4).more hb4.size, hl4⟩; clear hb4 hl4)
        obtain ⟨Al, cl, rfl, _⟩ := ents_len HD0.out.l
        have hsc := bound_scan HSRT.out key.data.toList id
        have HSL := Lib.hid (bound_sorted HSRT.out key.data.toList id)
        have hbl := bound_len HSRT.out key.data.toList id
        generalize boundE es key.data.toList id = l at *
        obtain ⟨ky, hky⟩ : ∃ ky, key.data.toList = ky := ⟨_, rfl⟩
        rw [hky] at hsc
        have HKY := Lib.hid hky
        have HF := Lib.hid hsc.1
        have HTO := Lib.hid hsc.2.1
        have HH := Lib.hid hsc.2.2
        clear hsc hky HE3 H3 HBX HE2 H2 H1 H0 HRC HSM HSRT HQ hks3 m6
        go_wp2
        go_loopg [11, 12, 13] l.length (fun g s11 s12 s13 wr => ∃ (k i : Nat) (fd : Bool), g = l.length - i ∧ s11 = .int .i64 (k : Int) ∧ s12 = .bool fd ∧ s13 = .int .i64 (i : Int) ∧ Hid (i ≤ l.length ∧ k ≤ es.length ∧ fne ky (es.drop k) = fne ky (l.drop i) ∧ fd = hask ky (l.take i)) ∧ BD w bn #[.int .i64 p0, .int .i64 p1, .int .i64 p2, .int .i64 p3, .int .i64 p4, .string p5, .slice Ae es.length ce] (.slice Ae es.length ce) (.slice Al l.length cl) es l wr)
        case atStart => exact ⟨0, 0, false, rfl, rfl, rfl, rfl, Lib.hid ⟨by omega, by omega, HF.out, rfl⟩, HD0.out⟩
        case round =>
          obtain ⟨k, i, fd, hg, rfl, rfl, rfl, HR, hd⟩ := hrel
          have HD1 := Lib.hid hd
          clear hd
          have m6 := cell_blk HD1.out.node 6
          simp at m6
          by_cases hil : i < l.length
          · obtain ⟨b2, off2, rfl, hb2, x0, x1⟩ := ents_at HD1.out.l hil
            have hili : (i : Int) < (l.length : Int) := by omega
            by_cases hi0 : i = 0
            · have hi1 : decide ((0 : Int) < (i : Int)) = false := by rw [decide_eq_false_iff_not]; omega
              have hi2 : decide (0 < i) = false := by rw [decide_eq_false_iff_not]; omega
              clear hi0
              go_wp2
              go_quiet (fail)
              have hdq := HD1.out.next (below_drewN' (Below.refl _ _) nq)
              clear x0 x1 m6 HD1
              generalize wr.drewN nq = wr2 at *
              have HD1 := Lib.hid hdq
              clear hdq
              have m6 := cell_blk HD1.out.node 6
              simp at m6
              obtain ⟨b4, off4, e4, hb4, x0, x1⟩ := ents_at HD1.out.l hil
              cases e4
              by_cases hke : (entAt l i).key = ky
              · have hto := HTO.out i hil hke
                have q1 : ((nm (entAt l i).key).toList == key.toList) = true := by rw [listD, listD]; show ((entAt l i).key == key.data.toList) = true; rw [HKY.out]; simp [hke]
                have q2 : ((entAt l i).to == id) = true := by simp [hto]
                have HO : Hid (fne ky (es.drop k) = fne ky (l.drop (i + 1)) ∧ true = hask ky (l.take (i + 1))) := Lib.hid ⟨by rw [HR.out.2.2.1, fne_skip hil hke], by rw [hask_next hil]; simp [hke]⟩
                clear hke hto
                generalize entAt l i = x at *
                go_wp2
                go_roundg (l.length - (i + 1))
                case measure => omega
                case rel => exact ⟨k, i + 1, true, rfl, rfl, rfl, by go_num, Lib.hid ⟨by omega, HR.out.2.1, HO.out.1, HO.out.2⟩, HD1.out⟩
              · have q1 : ((nm (entAt l i).key).toList == key.toList) = false := by rw [listD, listD]; rw [beq_eq_false_iff_ne]; show (entAt l i).key ≠ key.data.toList; rw [HKY.out]; exact hke
                have HO : Hid (fne ky (es.drop k) = entAt l i :: fne ky (l.drop (i + 1)) ∧ fd = hask ky (l.take (i + 1))) := Lib.hid ⟨by rw [HR.out.2.2.1, fne_take hil hke], by rw [hask_next hil, HR.out.2.2.2]; simp [hke]⟩
                have HKE := Lib.hid hke
                have hkl : k ≤ es.length := HR.out.2.1
                clear hke
                go_wp2
                go_loop [11] (fun s11 => ∃ k2 : Nat, s11 = .int .i64 (k2 : Int) ∧ k2 ≤ es.length ∧ fne ky (es.drop k2) = entAt l i :: fne ky (l.drop (i + 1))) (fun s11 => es.length - (intOf s11).toNat)
                case atStart => exact ⟨k, rfl, hkl, HO.out.1⟩
                case round =>
                  obtain ⟨k2, rfl, hk2, hR2⟩ := hrel
                  have hk3 : k2 < es.length := by
                    rcases Nat.lt_or_ge k2 es.length with h | h
                    · exact h
                    · rw [fne_end h] at hR2; cases hR2
                  obtain ⟨b, off, rfl, hbb, y0, y1⟩ := ents_at HD1.out.es hk3
                  have hk3i : (k2 : Int) < (es.length : Int) := by omega
                  by_cases hk4 : (entAt es k2).key = ky
                  · have q3 : ((nm (entAt es k2).key).toList == key.toList) = true := by rw [listD, listD]; show ((entAt es k2).key == key.data.toList) = true; rw [HKY.out]; simp [hk4]
                    have HR3 := Lib.hid ((fne_skip hk3 hk4).symm.trans hR2)
                    clear hk4 hR2
                    generalize entAt es k2 = y at *
                    go_wp2
                    go_round
                    case rel => exact ⟨k2 + 1, by go_num, hk3, HR3.out⟩
                    case measure => simp [intOf]; omega
                  · have q3 : ((nm (entAt es k2).key).toList == key.toList) = false := by rw [listD, listD]; rw [beq_eq_false_iff_ne]; show (entAt es k2).key ≠ key.data.toList; rw [HKY.out]; exact hk4
                    have hR4 := (fne_take hk3 hk4).symm.trans hR2
                    have hex : entAt es k2 = entAt l i := (List.cons.inj hR4).1
                    have HR4 := Lib.hid (List.cons.inj hR4).2
                    have hne := fun W => ent_neq (entAt es k2) (entAt l i) W
                    have hbf : (!decide (entAt es k2 = entAt l i)) = false := by simp [hex]
                    rw [hbf] at hne
                    clear hk4 hR2 hR4 hbf hex HKE
                    generalize entAt es k2 = y at *
                    generalize entAt l i = x at *
                    have hkn : decide ((es.length : Int) ≤ (k2 : Int)) = false := by rw [decide_eq_false_iff_not]; omega
                    have hkn2 : decide (es.length ≤ k2) = false := by rw [decide_eq_false_iff_not]; omega
                    go_wp2
                    go_quiet (fail)
                    have HD2 := Lib.hid (HD1.out.next (below_drewN' (Below.refl _ _) nq))
                    go_wp2
                    go_roundg (l.length - (i + 1))
                    case measure => omega
                    case rel => exact ⟨k2 + 1, i + 1, fd, rfl, by go_num, rfl, by go_num, Lib.hid ⟨by omega, hk3, HR4.out, HO.out.2⟩, HD2.out⟩
            · obtain ⟨j, rfl⟩ : ∃ j, i = j + 1 := ⟨i - 1, by omega⟩
              obtain ⟨b3, off3, e3, _, z0, z1⟩ := ents_at HD1.out.l (k := j) (by omega)
              cases e3
              have hlt : Op.bytesLess (nm (entAt l j).key).toList (nm (entAt l (j + 1)).key).toList = true := by rw [bytesLess_eq, listD, listD]; exact decide_eq_true (HSL.out j (j + 1) (by omega) hil)
              have hi1 : decide ((0 : Int) < ((j + 1 : Nat) : Int)) = true := by rw [decide_eq_true_eq]; omega
              clear hi0
              go_wp2
              go_quiet (fail)
              have hdq := HD1.out.next (below_drewN' (Below.refl _ _) nq)
              clear x0 x1 m6 HD1
              generalize wr.drewN nq = wr2 at *
              have HD1 := Lib.hid hdq
              clear hdq
              have m6 := cell_blk HD1.out.node 6
              simp at m6
              obtain ⟨b4, off4, e4, hb4, x0, x1⟩ := ents_at HD1.out.l hil
              cases e4
              clear hlt z0 z1
              by_cases hke : (entAt l (j + 1)).key = ky
              · have hto := HTO.out (j + 1) hil hke
                have q1 : ((nm (entAt l (j + 1)).key).toList == key.toList) = true := by rw [listD, listD]; show ((entAt l (j + 1)).key == key.data.toList) = true; rw [HKY.out]; simp [hke]
                have q2 : ((entAt l (j + 1)).to == id) = true := by simp [hto]
                have HO : Hid (fne ky (es.drop k) = fne ky (l.drop ((j + 1) + 1)) ∧ true = hask ky (l.take ((j + 1) + 1))) := Lib.hid ⟨by rw [HR.out.2.2.1, fne_skip hil hke], by rw [hask_next hil]; simp [hke]⟩
                clear hke hto
                generalize entAt l (j + 1) = x at *
                go_wp2
                go_roundg (l.length - ((j + 1) + 1))
                case measure => omega
                case rel => exact ⟨k, (j + 1) + 1, true, rfl, rfl, rfl, by go_num, Lib.hid ⟨by omega, HR.out.2.1, HO.out.1, HO.out.2⟩, HD1.out⟩
              · have q1 : ((nm (entAt l (j + 1)).key).toList == key.toList) = false := by rw [listD, listD]; rw [beq_eq_false_iff_ne]; show (entAt l (j + 1)).key ≠ key.data.toList; rw [HKY.out]; exact hke
                have HO : Hid (fne ky (es.drop k) = entAt l (j + 1) :: fne ky (l.drop ((j + 1) + 1)) ∧ fd = hask ky (l.take ((j + 1) + 1))) := Lib.hid ⟨by rw [HR.out.2.2.1, fne_take hil hke], by rw [hask_next hil, HR.out.2.2.2]; simp [hke]⟩
                have HKE := Lib.hid hke
                have hkl : k ≤ es.length := HR.out.2.1
                clear hke
                go_wp2
                go_loop [11] (fun s11 => ∃ k2 : Nat, s11 = .int .i64 (k2 : Int) ∧ k2 ≤ es.length ∧ fne ky (es.drop k2) = entAt l (j + 1) :: fne ky (l.drop ((j + 1) + 1))) (fun s11 => es.length - (intOf s11).toNat)
                case atStart => exact ⟨k, rfl, hkl, HO.out.1⟩
                case round =>
                  obtain ⟨k2, rfl, hk2, hR2⟩ := hrel
                  have hk3 : k2 < es.length := by
                    rcases Nat.lt_or_ge k2 es.length with h | h
                    · exact h
                    · rw [fne_end h] at hR2; cases hR2
                  obtain ⟨b, off, rfl, hbb, y0, y1⟩ := ents_at HD1.out.es hk3
                  have hk3i : (k2 : Int) < (es.length : Int) := by omega
                  by_cases hk4 : (entAt es k2).key = ky
                  · have q3 : ((nm (entAt es k2).key).toList == key.toList) = true := by rw [listD, listD]; show ((entAt es k2).key == key.data.toList) = true; rw [HKY.out]; simp [hk4]
                    have HR3 := Lib.hid ((fne_skip hk3 hk4).symm.trans hR2)
                    clear hk4 hR2
                    generalize entAt es k2 = y at *
                    go_wp2
                    go_round
                    case rel => exact ⟨k2 + 1, by go_num, hk3, HR3.out⟩
                    case measure => simp [intOf]; omega
                  · have q3 : ((nm (entAt es k2).key).toList == key.toList) = false := by rw [listD, listD]; rw [beq_eq_false_iff_ne]; show (entAt es k2).key ≠ key.data.toList; rw [HKY.out]; exact hk4
                    have hR4 := (fne_take hk3 hk4).symm.trans hR2
                    have hex : entAt es k2 = entAt l (j + 1) := (List.cons.inj hR4).1
                    have HR4 := Lib.hid (List.cons.inj hR4).2
                    have hne := fun W => ent_neq (entAt es k2) (entAt l (j + 1)) W
                    have hbf : (!decide (entAt es k2 = entAt l (j + 1))) = false := by simp [hex]
                    rw [hbf] at hne
                    clear hk4 hR2 hR4 hbf hex HKE
                    generalize entAt es k2 = y at *
                    generalize entAt l (j + 1) = x at *
                    have hkn : decide ((es.length : Int) ≤ (k2 : Int)) = false := by rw [decide_eq_false_iff_not]; omega
                    have hkn2 : decide (es.length ≤ k2) = false := by rw [decide_eq_false_iff_not]; omega
                    go_wp2
                    go_quiet (fail)
                    have HD2 := Lib.hid (HD1.out.next (below_drewN' (Below.refl _ _) nq))
                    go_wp2
                    go_roundg (l.length - ((j + 1) + 1))
                    case measure => omega
                    case rel => exact ⟨k2 + 1, (j + 1) + 1, fd, rfl, by go_num, rfl, by go_num, Lib.hid ⟨by omega, hk3, HR4.out, HO.out.2⟩, HD2.out⟩
          · have hili : ¬ (i : Int) < (l.length : Int) := by omega
            have hie : i = l.length := by have := HR.out.1; omega
            have hn1 : fne ky (es.drop k) = [] := by rw [HR.out.2.2.1, hie, fne_end (Nat.le_refl _)]
            have hfd : fd = decide (id ≠ 0) := by rw [HR.out.2.2.2, hie, List.take_length, HH.out]
            have q5 : (fd == (id != 0)) = true := by rw [hfd]; by_cases h : id = 0 <;> simp [h]
            have hkl := HR.out.2.1
            clear hfd hie hil
            go_wp2
            go_loop [11] (fun s11 => ∃ k2 : Nat, s11 = .int .i64 (k2 : Int) ∧ k2 ≤ es.length ∧ fne ky (es.drop k2) = []) (fun s11 => es.length - (intOf s11).toNat)
            case atStart => exact ⟨k, rfl, hkl, hn1⟩
            case round =>
              obtain ⟨k2, rfl, hk2, hR2⟩ := hrel
              by_cases hk3 : k2 < es.length
              · obtain ⟨b, off, rfl, hbb, y0, y1⟩ := ents_at HD1.out.es hk3
                have hk3i : (k2 : Int) < (es.length : Int) := by omega
                have hk4 : (entAt es k2).key = ky := by
                  refine Classical.byContradiction fun h => ?_
                  rw [fne_take hk3 h] at hR2; cases hR2
                have q3 : ((nm (entAt es k2).key).toList == key.toList) = true := by rw [listD, listD]; show ((entAt es k2).key == key.data.toList) = true; rw [HKY.out]; simp [hk4]
                have HR3 := Lib.hid ((fne_skip hk3 hk4).symm.trans hR2)
                clear hk4 hR2
                generalize entAt es k2 = y at *
                go_wp2
                go_round
                case rel => exact ⟨k2 + 1, by go_num, hk3, HR3.out⟩
                case measure => simp [intOf]; omega
              · obtain rfl : k2 = es.length := by omega
                have HBB := Lib.hid HD1.out.below
                go_wp2_with (go_at_call 10; (with_reducible refine (awake5_any _ (HM.out _ HBB.out)).mono ?_); rintro e w9 ⟨rfl, hb9⟩; have HB9 := Lib.hid (HBB.out.trans (hb9.mono HBB.out.size)); clear hb9)
                go_ret
                exact ⟨rfl, HB9.out⟩
      · have hks2 : (1000 : Int) < (key.size : Int) := by omega
        have HBB := Lib.hid H2.out.2
        go_wp2_with (go_at_call 10; (with_reducible refine (awake5_any _ (HM.out _ HBB.out)).mono ?_); rintro e w9 ⟨rfl, hb9⟩; have HB9 := Lib.hid (HBB.out.trans (hb9.mono HBB.out.size)); clear hb9)
        go_ret
        exact ⟨rfl, HB9.out⟩
theorem binds_row (nv : Value) (t : Tr) (a : Int) (key : ByteArray) (id : Int) (w : World) (hN : NodesIn w w.heap.size nv t.nodes) (h0 : 0 ≤ a) (h1 : a ≤ 18446744073709551615) (_ : key.size ≤ maxLen) (i0 : -9223372036854775808 ≤ id) (i1 : id ≤ 9223372036854775807) (hM : ∃ m, w.cell? ⟨0, 0, none⟩ = some (.int .i64 m)) :
    Calls Tryz.prog 7 #[trV nv t, .int .u64 a, .string key, .int .i64 id] w fun e w' => e = .returned (.bool true) ∧ Below w.heap.size w w' := by
  obtain ⟨an, rfl⟩ : ∃ an : Nat, a = an := ⟨a.toNat, by omega⟩
  exact binds_law nv t an key id w hN (by omega) ⟨i0, i1⟩ hM
end Go.Proofs.YtpicgkoclbpjpaaGreatDoor
