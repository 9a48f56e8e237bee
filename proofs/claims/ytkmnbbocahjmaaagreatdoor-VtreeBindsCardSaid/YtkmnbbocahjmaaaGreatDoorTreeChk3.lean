/- DERIVED. Walks: nodesMay, numbered of package tree. -/
import Derived.Test.YtkmnbbocahjmaaaGreatDoorTreeChk2
namespace Go.Proofs.YtkmnbbocahjmaaaGreatDoor
open Go.RowKit Go.Sort
open PathM TreeM
set_option linter.unusedVariables false

theorem plain_cut (n : Nd) : plainB n = (decide (0 ≤ n.mode ∧ n.mode ≤ 511) && decide (0 ≤ n.owner ∧ n.owner ≤ 65535) && decide (0 ≤ n.time ∧ n.time ≤ 1099511627776) && holdsB n) := by
  rw [plain_holds]
  congr 1
  rw [Bool.eq_iff_iff]; simp; omega

set_option maxHeartbeats 2000000 in
theorem nodesMay_any (v : Value) (l : List Nd) (B : Nat) (w : World) (hN : NodesIn w B v l) (hB : B ≤ w.heap.size) :
    Calls Tryz.prog 125 #[v] w fun e w' => e = .returned (.bool (nodesB l)) ∧ Below w.heap.size w w' := by
  obtain ⟨hlen, ⟨A, c, rfl, h0⟩ | ⟨b, off, c, rfl, hcap, hb, hpos, hcells⟩⟩ := hN.cases
  · subst h0
    go_enter Tryz.func125, Tryz.ntmps125
    go_wp2
    refine wp_loop_rounds 1 ?_
    rw [rounds_succ]
    go_wp2
    go_ret
    exact ⟨rfl, Below.refl _ _⟩
  obtain ⟨r, hr⟩ : ∃ r, nodesB l = r := ⟨_, rfl⟩
  rw [hr]
  have hfail : ∀ k, k < l.length → plainB (ndAt l k) = false → r = false := fun k hk h => by rw [← hr]; exact allTo_not hk h
  have hall : allTo (fun i => plainB (ndAt l i)) l.length = true → r = true := fun h => by rw [← hr]; exact h
  have HWi := Lib.hid (fun n most W => within_any n most W)
  generalize hn : l.length = n at *
  have HN := Lib.hid hn; have HR := Lib.hid hr; have HF := Lib.hid hfail; have HA := Lib.hid hall; have HC := Lib.hid hcells
  clear hn hr hfail hall hcells hN
  go_enter Tryz.func125, Tryz.ntmps125
  go_wp2
  go_loopw [7] (fun i wr => ∃ k : Nat, k ≤ n ∧ i = .int .i64 k ∧ allTo (fun i => plainB (ndAt l i)) k = true ∧ Below w.heap.size w wr) (fun i _ => n - (intOf i).toNat)
  case atStart => exact ⟨0, by omega, rfl, rfl, Below.refl _ _⟩
  case round =>
    obtain ⟨k, hk, rfl, hto, hbel⟩ := hrel
    have HT := Lib.hid hto; clear hto
    by_cases hlt : k < n
    · have hwr : w.heap.size ≤ wr.heap.size := hbel.size
      have hNd : NodeIn wr wr.heap.size b (off + k * 7) (ndAt l k) := ((HC.out k hlt).more (B' := w.heap.size) hB |>.below (by omega) hbel).more hwr
      have hkk : (k : Int) < (n : Int) := by omega
      have hF := HF.out k hlt
      have hS : plainB (ndAt l k) = true → allTo (fun i => plainB (ndAt l i)) (k + 1) = true := fun h => allTo_succ HT.out h
      rw [plain_cut] at hF hS
      generalize ndAt l k = nd at hNd hF hS
      obtain ⟨c0, c1, c2, c3, c4, c5, hdl, ev, c6, hE⟩ := hNd
      obtain ⟨Ae, ce, rfl, hml⟩ := ents_len hE
      have HH := Lib.hid (fun W (h : Below wr.heap.size wr W) => holds_any _ nd wr.heap.size W (hE.below h) h.size hdl)
      have HW1 := Lib.hid (fun W => within_any nd.mode 511 W)
      have HW2 := Lib.hid (fun W => within_any nd.owner 65535 W)
      have HW3 := Lib.hid (fun W => within_any nd.time 1099511627776 W)
      clear hdl hE
      generalize hb1 : decide (0 ≤ nd.mode ∧ nd.mode ≤ 511) = b1 at *
      generalize hb2 : decide (0 ≤ nd.owner ∧ nd.owner ≤ 65535) = b2 at *
      generalize hb3 : decide (0 ≤ nd.time ∧ nd.time ≤ 1099511627776) = b3 at *
      generalize hb4 : holdsB nd = b4 at *
      clear hb1 hb2 hb3 hb4
      cases b1
      · have HO := Lib.hid (hF rfl)
        clear hF hS
        go_wp2_with (go_at_call 146; refine (HW1.out _).mono ?_; rintro e w' ⟨rfl, rfl⟩)
        go_ret
        exact ⟨ret_bool HO.out.symm, hbel.alloc hwr _⟩
      cases b2
      · have HO := Lib.hid (hF rfl)
        clear hF hS
        go_wp2_with fail
        refine (HW1.out _).mono ?_
        rintro e w' ⟨rfl, rfl⟩
        go_wp2_with fail
        refine (HW2.out _).mono ?_
        rintro e w' ⟨rfl, rfl⟩
        go_wp2_with fail
        go_ret
        exact ⟨ret_bool HO.out.symm, hbel.alloc hwr _⟩
      cases b3
      · have HO := Lib.hid (hF rfl)
        clear hF hS
        go_wp2_with fail
        refine (HW1.out _).mono ?_
        rintro e w' ⟨rfl, rfl⟩
        go_wp2_with fail
        refine (HW2.out _).mono ?_
        rintro e w' ⟨rfl, rfl⟩
        go_wp2_with fail
        refine (HW3.out _).mono ?_
        rintro e w' ⟨rfl, rfl⟩
        go_wp2_with fail
        go_ret
        exact ⟨ret_bool HO.out.symm, hbel.alloc hwr _⟩
      cases b4
      · have HO := Lib.hid (hF rfl)
        clear hF hS
        go_wp2_with fail
        refine (HW1.out _).mono ?_
        rintro e w' ⟨rfl, rfl⟩
        go_wp2_with fail
        refine (HW2.out _).mono ?_
        rintro e w' ⟨rfl, rfl⟩
        go_wp2_with fail
        refine (HW3.out _).mono ?_
        rintro e w' ⟨rfl, rfl⟩
        go_wp2_with fail
        refine (HH.out _ ((Below.refl _ _).alloc (Nat.le_refl _) _)).mono ?_
        rintro e w' ⟨rfl, hb⟩
        go_wp2_with fail
        go_ret
        exact ⟨ret_bool HO.out.symm, (hbel.alloc hwr _).trans (hb.mono (by simp; omega))⟩
      · have HO := Lib.hid (hS rfl)
        clear hF hS
        go_wp2_with fail
        refine (HW1.out _).mono ?_
        rintro e w' ⟨rfl, rfl⟩
        go_wp2_with fail
        refine (HW2.out _).mono ?_
        rintro e w' ⟨rfl, rfl⟩
        go_wp2_with fail
        refine (HW3.out _).mono ?_
        rintro e w' ⟨rfl, rfl⟩
        go_wp2_with fail
        refine (HH.out _ ((Below.refl _ _).alloc (Nat.le_refl _) _)).mono ?_
        rintro e w' ⟨rfl, hb⟩
        go_wp2_with fail
        go_roundw
        case rel => exact ⟨k + 1, by omega, by go_num, HO.out, (hbel.alloc hwr _).trans (hb.mono (by simp; omega))⟩
        case measure => simp [intOf]; omega
    · have hkn : k = n := by omega
      have HO := Lib.hid (HA.out (by rw [← hkn]; exact HT.out))
      clear hkn
      go_wp2
      go_ret
      exact ⟨ret_bool HO.out.symm, hbel⟩

set_option maxHeartbeats 2000000 in
theorem numbered_any (nv : Value) (t : Tr) (B : Nat) (w : World) (hN : NodesIn w B nv t.nodes) (hB : B ≤ w.heap.size) :
    Calls Tryz.prog 124 #[trV nv t] w fun e w' => e = .returned (.bool (numB t)) ∧ Below w.heap.size w w' := by
  obtain ⟨hlen, ⟨A, c, rfl, h0⟩ | ⟨b, off, c, rfl, hcap, hb, hpos, hcells⟩⟩ := hN.cases
  · have hr : numB t = false := by simp [numB, h0]
    rw [hr]
    unfold trV
    clear hr hN h0
    go_enter Tryz.func124, Tryz.ntmps124
    go_wp2
    go_ret
    exact ⟨rfl, (Below.refl _ _).alloc (Nat.le_refl _) _⟩
  unfold trV
  obtain ⟨r, hr⟩ : ∃ r, numB t = r := ⟨_, rfl⟩
  rw [hr]
  have hnum : numB t = (decide (1 ≤ t.nodes.length ∧ t.nodes.length ≤ 512 ∧ (ndAt t.nodes 0).id = 1 ∧ (ndAt t.nodes 0).kind = 1) && allTo (okNum t.nodes t.last) t.nodes.length) := rfl
  have hbw : b < w.heap.size := by omega
  have hN0 := hcells 0 hpos
  rw [show off + 0 * 7 = off by omega] at hN0
  obtain ⟨d0, d1, _⟩ := hN0
  obtain ⟨l, la, rn, rb⟩ := t
  simp only at *
  generalize hn : l.length = n at *
  by_cases hbig : n ≤ 512
  · by_cases hid : (ndAt l 0).id = 1
    · by_cases hki : (ndAt l 0).kind = 1
      · have hfail : ∀ k, k < n → okNum l la k = false → r = false := fun k hk h => by rw [← hr, hnum, allTo_not hk h]; simp
        have hall : allTo (okNum l la) n = true → r = true := fun h => by rw [← hr, hnum, h]; simp [hid, hki, hbig]; omega
        have HF := Lib.hid hfail; have HA := Lib.hid hall; have HC := Lib.hid hcells; have HR := Lib.hid hr; have HN := Lib.hid hn; have HU := Lib.hid hnum
        clear hfail hall hcells hr hn hnum hN
        rw [hid] at d0
        rw [hki] at d1
        clear hid hki
        go_enter Tryz.func124, Tryz.ntmps124
        go_wp2
        go_loopw [34] (fun i wr => ∃ k : Nat, k ≤ n ∧ i = .int .i64 k ∧ allTo (okNum l la) k = true ∧ Below (w.heap.size + 1) (w.alloc (.cells #[.slice (some ⟨b, off, none⟩) n c, .int .i64 la, .int .i64 rn, .int .i64 rb] 26)) wr) (fun i _ => n - (intOf i).toNat)
        case atStart => exact ⟨0, by omega, rfl, rfl, Below.refl _ _⟩
        case round =>
          obtain ⟨k, hk, rfl, hto, hbel⟩ := hrel
          have hwr : w.heap.size + 1 ≤ wr.heap.size := by have := hbel.size; simpa using this
          have hws : w.heap.size < wr.heap.size := by omega
          have hbw2 : b < wr.heap.size := by omega
          have hbel2 : Below w.heap.size w wr := ((Below.refl _ _).alloc (Nat.le_refl _) _).trans (hbel.mono (by omega))
          have t0 : wr.cell? ⟨w.heap.size, 0, none⟩ = some (.slice (some ⟨b, off, none⟩) n c) := (hbel.cell (p := ⟨w.heap.size, 0, none⟩) (by simp)).trans (by simp)
          have t1 : wr.cell? ⟨w.heap.size, 1, none⟩ = some (.int .i64 la) := (hbel.cell (p := ⟨w.heap.size, 1, none⟩) (by simp)).trans (by simp)
          have HT := Lib.hid hto; have HB := Lib.hid hbel; have HB2 := Lib.hid hbel2
          clear hto hbel hbel2
          by_cases hlt : k < n
          · obtain ⟨c0, c1, c2, c3, c4, c5, hdl, ev, c6, hE⟩ : NodeIn wr wr.heap.size b (off + k * 7) (ndAt l k) := ((HC.out k hlt).more (B' := w.heap.size) hB |>.below (by omega) HB2.out).more (by omega)
            have hkk : (k : Int) < (n : Int) := by omega
            have hok : okNum l la k = (decide ((ndAt l k).id ≤ la) && (k == 0 || decide ((ndAt l (k - 1)).id < (ndAt l k).id))) := rfl
            obtain ⟨Ae, ce, rfl, hml⟩ := ents_len hE
            clear hdl hE
            by_cases hla : (ndAt l k).id ≤ la
            · have g1 : decide (la < (ndAt l k).id) = false := by simp; omega
              by_cases hk0 : k = 0
              · have HO := Lib.hid (allTo_succ HT.out (hok.trans (by rw [decide_eq_true hla, hk0]; rfl)))
                have hd : decide ((0 : Int) < (k : Int)) = false := by simp; omega
                have hd2 : decide (0 < k) = false := by simp; omega
                clear hok hk0 hla
                generalize ndAt l k = nd at *
                go_wp2
                go_quiet (fail)
                go_wp2
                go_roundw
                case rel => exact ⟨k + 1, by omega, by go_num, HO.out, below_drewN' (HB.out.alloc (by omega) _) _⟩
                case measure => simp [intOf]; omega
              · have hd : decide ((0 : Int) < (k : Int)) = true := by simp; omega
                have hd2 : decide (0 < k) = true := by simp; omega
                obtain ⟨p0, _⟩ : NodeIn wr wr.heap.size b (off + (k - 1) * 7) (ndAt l (k - 1)) := ((HC.out (k - 1) (by omega)).more (B' := w.heap.size) hB |>.below (by omega) HB2.out).more (by omega)
                have hk1 : (0 : Int) ≤ (k : Int) - 1 := by omega
                have hk2 : (k : Int) - 1 < (n : Int) := by omega
                have hk3 : ((k : Int) - 1).toNat = k - 1 := by omega
                by_cases hord : (ndAt l (k - 1)).id < (ndAt l k).id
                · have HO := Lib.hid (allTo_succ HT.out (hok.trans (by simp [hla, hord])))
                  have g2 : decide ((ndAt l k).id ≤ (ndAt l (k - 1)).id) = false := by simp; omega
                  clear hok hk0 hla hord
                  generalize ndAt l k = nd at *
                  generalize ndAt l (k - 1) = pd at *
                  go_wp2
                  go_quiet (fail)
                  go_wp2
                  go_roundw
                  case rel => exact ⟨k + 1, by omega, by go_num, HO.out, below_drewN' (HB.out.alloc (by omega) _) _⟩
                  case measure => simp [intOf]; omega
                · have HO := Lib.hid (HF.out k hlt (hok.trans (by simp [hla, hord, hk0])))
                  have g2 : decide ((ndAt l k).id ≤ (ndAt l (k - 1)).id) = true := by simp; omega
                  clear hok hk0 hla hord
                  generalize ndAt l k = nd at *
                  generalize ndAt l (k - 1) = pd at *
                  go_wp2
                  go_quiet (fail)
                  go_wp2
                  go_ret
                  exact ⟨ret_bool HO.out.symm, below_drewN' (HB2.out.alloc (by omega) _) _⟩
            · have g1 : decide (la < (ndAt l k).id) = true := by simp; omega
              have HO := Lib.hid (HF.out k hlt (hok.trans (by simp [hla])))
              clear hok hla
              generalize ndAt l k = nd at *
              go_wp2
              go_quiet (fail)
              go_wp2
              go_ret
              exact ⟨ret_bool HO.out.symm, below_drewN' (HB2.out.alloc (by omega) _) _⟩
          · have hkn : k = n := by omega
            have HO := Lib.hid (HA.out (by rw [← hkn]; exact HT.out))
            clear hkn
            go_wp2
            go_ret
            exact ⟨ret_bool HO.out.symm, HB2.out⟩
      · have hf : r = false := by rw [← hr, hnum]; simp [hki]
        have q1 : ((ndAt l 0).kind != 1) = true := by simpa using hki
        have HF := Lib.hid hf
        rw [hid] at d0
        clear hr hnum hcells hn hf hid hki hN
        generalize (ndAt l 0).kind = kd at *
        go_enter Tryz.func124, Tryz.ntmps124
        go_wp2
        go_ret
        exact ⟨ret_bool HF.out.symm, (Below.refl _ _).alloc (Nat.le_refl _) _⟩
    · have hf : r = false := by rw [← hr, hnum]; simp [hid]
      have q1 : ((ndAt l 0).id != 1) = true := by simpa using hid
      have HF := Lib.hid hf
      clear hr hnum hcells hn hf hid d1 hN
      generalize (ndAt l 0).id = kd at *
      go_enter Tryz.func124, Tryz.ntmps124
      go_wp2
      go_ret
      exact ⟨ret_bool HF.out.symm, (Below.refl _ _).alloc (Nat.le_refl _) _⟩
  · have hf : r = false := by rw [← hr, hnum]; simp [hbig]
    have HF := Lib.hid hf
    clear hr hnum hcells hn hf d0 d1 hN
    go_enter Tryz.func124, Tryz.ntmps124
    go_wp2
    go_ret
    exact ⟨ret_bool HF.out.symm, (Below.refl _ _).alloc (Nat.le_refl _) _⟩

end Go.Proofs.YtkmnbbocahjmaaaGreatDoor
