/- DERIVED. Walks over the laws of layer 3. -/
import Derived.Test.YtfchofdoabhakaaDoorPathAny
namespace Go.Proofs.YtfchofdoabhakaaDoor
open Go.RowKit
open PathM
set_option linter.unusedVariables false

/-- path.Parts, whatever it is given. -/
theorem parts_any (p : ByteArray) (w : World) (hs : p.size ≤ maxLen) :
    Calls Tryd.prog 12 #[.string p] w (PartsPost p.data.toList w) := by
  by_cases hf : faultN p.data.toList = 0
  · have := (fault0 hf).2.1
    exact parts_loop p w (by rw [sizeD]; exact this) hf
  · refine (parts_fault p w hs hf).mono ?_
    rintro e w' ⟨he, hb⟩
    have hE : partsE p.data.toList = faultN p.data.toList := by unfold partsE; rw [if_pos hf]
    have hE0 : partsE p.data.toList ≠ 0 := by rw [hE]; exact hf
    refine ⟨.slice none 0 0, ?_, ?_, hb⟩
    · rw [he, hE]; unfold partsB; rw [if_neg hE0]
    · unfold partsL; rw [if_neg hE0]; exact World.ownsRow_nil _ _ _ _
theorem rparts_any (p : ByteArray) (w : World) (hs : p.size ≤ maxLen) :
    Calls Tryd.prog 13 #[.string p] w (PartsPost p.data.toList w) := by
  by_cases hf : faultN p.data.toList = 0
  · exact rparts_loop p w hf
  · refine (rparts_fault p w hs hf).mono ?_
    rintro e w' ⟨he, rfl⟩
    have hE : partsE p.data.toList = faultN p.data.toList := by unfold partsE; rw [if_pos hf]
    have hE0 : partsE p.data.toList ≠ 0 := by rw [hE]; exact hf
    refine ⟨.slice none 0 0, ?_, ?_, Below.refl _ _⟩
    · rw [he, hE]; unfold partsB; rw [if_neg hE0]
    · unfold partsL; rw [if_neg hE0]; exact World.ownsRow_nil _ _ _ _

/-- A row is kept by what keeps all below its world's end. -/
theorem ownsRow_below {W W' : World} {b : Nat} {e : TypeId} {size : Nat} {v : Value} {n : Nat} {xs : List Value} (h : W.ownsRow b e size v n xs) (hb : Below W.heap.size W W') : W'.ownsRow b e size v n xs := by
  refine ⟨h.1, ?_⟩
  rcases h.2 with h0 | ⟨g, cap, cur, e1, h1, h2, h3⟩
  · exact .inl h0
  · exact .inr ⟨g, cap, cur, e1, h1, (hb.block g (Array.getElem?_eq_some_iff.1 h2).1).trans h2, h3⟩

def exA : Bs := [47, 97, 47, 47, 98, 47]
set_option maxHeartbeats 2000000 in
theorem awake_any (w : World) :
    Calls Tryd.prog 11 #[] w fun e w' => e = .returned (.bool true) ∧ Below w.heap.size w w' := by
  have a1 := fun w => parts_any (nm exA) w (by rw [nm_size]; unfold maxLen; decide)
  unfold PartsPost at a1
  rw [nm_data, show partsB exA = true by decide +kernel, show partsE exA = 0 by decide +kernel, show partsL exA = [[97], [98]] by decide +kernel] at a1
  rw [show nm exA = ⟨#[47, 97, 47, 47, 98, 47]⟩ from rfl] at a1
  have a2 := fun w => clean_any (nm [47, 97, 47, 46, 47, 98, 47, 46, 46, 47, 99]) w (by rw [nm_size]; decide)
  rw [nm_data, show cleanL [47, 97, 47, 46, 47, 98, 47, 46, 46, 47, 99] = [47, 97, 47, 99] by decide +kernel] at a2
  have a3 := fun w => clean_any (nm [47, 46, 46, 47, 46, 46]) w (by rw [nm_size]; decide)
  rw [nm_data, show cleanL [47, 46, 46, 47, 46, 46] = [47] by decide +kernel] at a3
  have a4 := fun w => up_any (nm [47, 97, 47, 98]) w (by rw [nm_size]; decide)
  rw [nm_data, show upL [47, 97, 47, 98] = [47, 97] by decide +kernel] at a4
  have a5 := fun w => up_any (nm [97]) w (by rw [nm_size]; decide)
  rw [nm_data, show upL [97] = [46] by decide +kernel] at a5
  have a6 := fun w => base_any (nm [47, 97, 47, 98, 47]) w (by rw [nm_size]; decide)
  rw [nm_data, show baseL [47, 97, 47, 98, 47] = [98] by decide +kernel] at a6
  unfold nm at a2 a3 a4 a5 a6
  have HA1 := Lib.hid a1; have HA2 := Lib.hid a2; have HA3 := Lib.hid a3; have HA4 := Lib.hid a4; have HA5 := Lib.hid a5; have HA6 := Lib.hid a6
  clear a1 a2 a3 a4 a5 a6
  go_enter Tryd.func11, Tryd.ntmps11
  go_wp2_with fail
  refine (HA1.out _).mono ?_
  rintro e w1 ⟨v, rfl, hrow, hb1⟩
  have HR := Lib.hid hrow; clear hrow
  go_wp2_with fail
  refine (rtexts_eq v _ [[97], [98]] w.heap.size w1.heap.size _ (HR.out.alloc _) ?row (by decide)).mono ?_
  case row =>
    exact ⟨by simp, .inr ⟨w1.heap.size, 2, _, rfl, Nat.le_refl _, heap_alloc_new w1 _, by simp, by unfold maxLen; omega, rfl, rfl⟩⟩
  rintro e w2 ⟨rfl, k, hw2⟩
  have hb2 : Below w.heap.size w w2 := by
    rw [hw2]
    exact below_drewN' (hb1.alloc hb1.size _) k
  clear hw2
  go_wp2_with fail
  refine (HA2.out _).mono ?_
  rintro e w3 ⟨rfl, hb3⟩
  go_wp2_with fail
  refine (HA3.out _).mono ?_
  rintro e w4 ⟨rfl, hb4⟩
  go_wp2_with fail
  refine (HA4.out _).mono ?_
  rintro e w5 ⟨rfl, rfl⟩
  go_wp2_with fail
  refine (HA5.out _).mono ?_
  rintro e w5 ⟨rfl, rfl⟩
  go_wp2_with fail
  refine (HA6.out _).mono ?_
  rintro e w5 ⟨rfl, rfl⟩
  go_wp2_with fail
  go_ret
  exact ⟨rfl, (hb2.trans (hb3.mono hb2.size)).trans (hb4.mono (Nat.le_trans hb2.size hb3.size))⟩

set_option maxHeartbeats 1000000 in
theorem pathnames_law (s : ByteArray) (w : World) (hs : s.size ≤ maxLen) :
    Calls Tryd.prog 3 #[.string s] w fun e w' => e = .returned (.bool true) ∧ Below w.heap.size w w' := by
  have a1 := fun w => name_any s w hs
  have a2 := fun w => rname_any s w hs
  generalize nameB s.data.toList = b at a1 a2
  have A1 := Lib.hid a1; have A2 := Lib.hid a2; clear a1 a2
  go_enter Tryd.func3, Tryd.ntmps3
  go_wp2_with fail
  refine (A1.out _).mono ?_
  rintro e w1 ⟨rfl, hb1⟩
  go_wp2_with fail
  refine (A2.out _).mono ?_
  rintro e w2 ⟨rfl, rfl⟩
  go_wp2_with fail
  refine (awake_any _).mono ?_
  rintro e w2 ⟨rfl, hb2⟩
  go_wp2_with fail
  go_ret
  exact ⟨rfl, hb1.trans (hb2.mono hb1.size)⟩

set_option maxHeartbeats 1000000 in
theorem pathparts_law (s : ByteArray) (w : World) (hs : s.size ≤ maxLen) :
    Calls Tryd.prog 4 #[.string s] w fun e w' => e = .returned (.bool true) ∧ Below w.heap.size w w' := by
  have a1 := fun w => parts_any s w hs
  have a2 := fun w => rparts_any s w hs
  have hl : (partsL s.data.toList).length ≤ 9223372036854775806 := by
    unfold partsL
    split
    · rename_i h
      have h0 : faultN s.data.toList = 0 := by
        unfold partsE at h
        split at h
        · rename_i h2; exact absurd h h2
        · rename_i h2; exact Classical.byContradiction h2
      have := names_len s.data.toList
      have := (fault0 h0).2.1
      omega
    · simp
  unfold PartsPost at a1 a2
  generalize partsL s.data.toList = L at *
  generalize partsB s.data.toList = b at *
  generalize partsE s.data.toList = n at *
  have A1 := Lib.hid a1; have A2 := Lib.hid a2; clear a1 a2
  go_enter Tryd.func4, Tryd.ntmps4
  go_wp2_with fail
  refine (A1.out _).mono ?_
  rintro e w1 ⟨v1, rfl, hr1, hb1⟩
  have R1 := Lib.hid hr1; clear hr1
  go_wp2_with fail
  refine (A2.out _).mono ?_
  rintro e w2 ⟨v2, rfl, hr2, hb2⟩
  have R2 := Lib.hid hr2; clear hr2
  have hbb := hb1.trans (hb2.mono hb1.size)
  go_wp2_with fail
  refine (rtexts_eq v1 v2 L w.heap.size w1.heap.size _ (ownsRow_below R1.out hb2) R2.out hl).mono ?_
  rintro e w3 ⟨rfl, k, rfl⟩
  go_wp2_with fail
  refine (awake_any _).mono ?_
  rintro e w4 ⟨rfl, hb4⟩
  go_wp2_with fail
  go_ret
  exact ⟨rfl, (below_drewN' hbb k).trans (hb4.mono hbb.size)⟩

set_option maxHeartbeats 1000000 in
theorem pathjoins_law (d p : ByteArray) (w : World) (hd : d.size + p.size + 1 ≤ maxLen) :
    Calls Tryd.prog 5 #[.string d, .string p] w fun e w' => e = .returned (.bool true) ∧ Below w.heap.size w w' := by
  have a1 := fun w => join_any d p w hd
  have a2 := fun w => rjoin_any d p w hd
  have a3 := fun w => abs_any d p w hd
  have a4 := fun w => rabs_any d p w hd
  generalize nm (joinL d.data.toList p.data.toList) = X at a1 a2
  generalize nm (absL d.data.toList p.data.toList) = Y at a3 a4
  have A1 := Lib.hid a1; have A2 := Lib.hid a2; have A3 := Lib.hid a3; have A4 := Lib.hid a4; clear a1 a2 a3 a4
  go_enter Tryd.func5, Tryd.ntmps5
  go_wp2_with fail
  refine (A1.out _).mono ?_
  rintro e w1 ⟨rfl, rfl⟩
  go_wp2_with fail
  refine (A2.out _).mono ?_
  rintro e w1 ⟨rfl, rfl⟩
  go_wp2_with fail
  refine (A3.out _).mono ?_
  rintro e w1 ⟨rfl, rfl⟩
  go_wp2_with fail
  refine (A4.out _).mono ?_
  rintro e w1 ⟨rfl, rfl⟩
  go_wp2_with fail
  refine (awake_any _).mono ?_
  rintro e w4 ⟨rfl, hb4⟩
  go_wp2_with fail
  go_ret
  exact ⟨rfl, hb4⟩

set_option maxHeartbeats 1000000 in
theorem pathcleans_law (p : ByteArray) (w : World) (hs : p.size ≤ maxLen) :
    Calls Tryd.prog 6 #[.string p] w fun e w' => e = .returned (.bool true) ∧ Below w.heap.size w w' := by
  unfold maxLen at hs
  by_cases h3 : 3000 < p.size
  · go_enter Tryd.func6, Tryd.ntmps6
    go_wp2_with fail
    refine (awake_any _).mono ?_
    rintro e w4 ⟨rfl, hb4⟩
    go_wp2_with fail
    go_ret
    exact ⟨rfl, hb4⟩
  · have h3' : p.size ≤ 3000 := by omega
    have a1 := fun w => clean_any p w (by omega)
    have a2 := fun w => rclean_any p w (by omega)
    have hl := rootJ_len p.data.toList
    rw [← sizeD] at hl
    have a3 := fun w => clean_any (nm (cleanL p.data.toList)) w (by rw [nm_size]; omega)
    rw [nm_data, clean_clean] at a3
    generalize nm (cleanL p.data.toList) = X at a1 a2 a3
    have A1 := Lib.hid a1; have A2 := Lib.hid a2; have A3 := Lib.hid a3; clear a1 a2 a3 hl
    go_enter Tryd.func6, Tryd.ntmps6
    go_wp2_with fail
    refine (A1.out _).mono ?_
    rintro e w1 ⟨rfl, hb1⟩
    go_wp2_with fail
    refine (A2.out _).mono ?_
    rintro e w2 ⟨rfl, hb2⟩
    go_wp2_with fail
    refine (A3.out _).mono ?_
    rintro e w3 ⟨rfl, hb3⟩
    go_wp2_with fail
    refine (awake_any _).mono ?_
    rintro e w4 ⟨rfl, hb4⟩
    go_wp2_with fail
    go_ret
    have c2 := hb1.trans (hb2.mono hb1.size)
    have c3 := c2.trans (hb3.mono c2.size)
    exact ⟨rfl, c3.trans (hb4.mono c3.size)⟩

set_option maxHeartbeats 1000000 in
theorem pathends_law (p : ByteArray) (w : World) (hs : p.size ≤ 2000000) :
    Calls Tryd.prog 7 #[.string p] w fun e w' => e = .returned (.bool true) ∧ Below w.heap.size w w' := by
  have a1 := fun w => base_any p w (by omega)
  have a2 := fun w => rbase_any p w hs
  have a3 := fun w => up_any p w (by omega)
  have a4 := fun w => rup_any p w hs
  generalize nm (baseL p.data.toList) = X at a1 a2
  generalize nm (upL p.data.toList) = Y at a3 a4
  have A1 := Lib.hid a1; have A2 := Lib.hid a2; have A3 := Lib.hid a3; have A4 := Lib.hid a4; clear a1 a2 a3 a4
  go_enter Tryd.func7, Tryd.ntmps7
  go_wp2_with fail
  refine (A1.out _).mono ?_
  rintro e w1 ⟨rfl, rfl⟩
  go_wp2_with fail
  refine (A2.out _).mono ?_
  rintro e w1 ⟨rfl, hb1⟩
  go_wp2_with fail
  refine (A3.out _).mono ?_
  rintro e w2 ⟨rfl, rfl⟩
  go_wp2_with fail
  refine (A4.out _).mono ?_
  rintro e w2 ⟨rfl, hb2⟩
  go_wp2_with fail
  refine (awake_any _).mono ?_
  rintro e w4 ⟨rfl, hb4⟩
  go_wp2_with fail
  go_ret
  have c2 := hb1.trans (hb2.mono hb1.size)
  exact ⟨rfl, c2.trans (hb4.mono c2.size)⟩

theorem rootJ_nil : rootJ [] = [47] := rfl
theorem rootJ_take_len (ns : List Bs) (k : Nat) : (rootJ (ns.take k)).length ≤ (flatS ns).length + 1 := by
  have := flatS_take_len ns k
  unfold rootJ; split
  · simp
  · omega
theorem good_take {ns : List Bs} (h : PathM.Good ns) (k : Nat) : PathM.Good (ns.take k) := fun n hn => h n (List.mem_of_mem_take hn)
theorem rootJ_succ {ns : List Bs} (h : PathM.Good ns) (k : Nat) (hk : k < ns.length) : joinL (rootJ (ns.take k)) ns[k] = rootJ (ns.take (k + 1)) := by
  rw [join_rootJ _ _ (good_take h k), List.take_succ_eq_append_getElem hk]

set_option maxRecDepth 100000 in
set_option maxHeartbeats 4000000 in
theorem pathback_law (d n : ByteArray) (w : World) (hd : d.size ≤ maxLen) (hn : n.size ≤ 140737488355328) :
    Calls Tryd.prog 8 #[.string d, .string n] w fun e w' => e = .returned (.bool true) ∧ Below w.heap.size w w' := by
  unfold maxLen at hd
  by_cases h3 : 3000 < d.size
  · go_enter Tryd.func8, Tryd.ntmps8
    go_wp2_with fail
    refine (awake_any _).mono ?_
    rintro e w4 ⟨rfl, hb4⟩
    go_wp2_with fail
    go_ret
    exact ⟨rfl, hb4⟩
  · have h3' : d.size ≤ 3000 := by omega
    have a1 := fun w => clean_any d w (by omega)
    have hl := rootJ_len d.data.toList
    rw [← sizeD] at hl
    have hg := good_clean d.data.toList
    have hcl : cleanL d.data.toList = rootJ (cleanNs d.data.toList) := rfl
    rw [hcl] at a1 hl
    generalize cleanNs d.data.toList = ns at *
    have hds := nm_size (rootJ ns)
    have hdd := nm_data (rootJ ns)
    have hfl : (flatS ns).length ≤ (rootJ ns).length := by
      unfold rootJ; split
      · rename_i e; subst e; simp [flatS]
      · exact Nat.le_refl _
    have a2 := fun w => join_any (nm (rootJ ns)) n w (by rw [hds]; unfold maxLen; omega)
    have a3 := fun w => name_any n w (by unfold maxLen; omega)
    have a4 := fun w => parts_any (nm (rootJ ns)) w (by rw [hds]; unfold maxLen; omega)
    unfold PartsPost at a4
    rw [hdd] at a2 a4
    have hpl : partsE (rootJ ns) = 0 → partsL (rootJ ns) = ns := fun h => by unfold partsL; rw [if_pos h]; exact names_rootJ ns hg
    have hnl : ns.length ≤ 6001 := by have := flatS_len ns; omega
    have hNL : ∀ m ∈ ns, m.length ≤ (flatS ns).length := fun m hm => by rw [flatS_len]; have := mem_len ns m hm; omega
    have HG := Lib.hid hg; have HNL := Lib.hid hNL
    have h5 : nameB n.data.toList = true → (∀ w, Calls Tryd.prog 21 #[.string (nm (joinL (rootJ ns) n.data.toList))] w fun e w' => e = .returned (.string n) ∧ w = w') ∧
        (∀ w, Calls Tryd.prog 23 #[.string (nm (joinL (rootJ ns) n.data.toList))] w fun e w' => e = .returned (.string (nm (rootJ ns))) ∧ w = w') ∧
        (∀ w, Calls Tryd.prog 19 #[.string (nm (joinL (rootJ ns) n.data.toList))] w fun e w' => e = .returned (.string (nm (joinL (rootJ ns) n.data.toList))) ∧ Below w.heap.size w w') := fun hb => by
      have hlen := nameB_len hb
      have hps : (nm (joinL (rootJ ns) n.data.toList)).size ≤ 10000 := by
        rw [nm_size]; unfold joinL
        have := bare_len (rootJ ns)
        simp at hlen ⊢; omega
      refine ⟨fun w => ?_, fun w => ?_, fun w => ?_⟩
      · have := base_any (nm (joinL (rootJ ns) n.data.toList)) w (by omega)
        rw [nm_data, base_join ns _ hg hb, nm_of] at this; exact this
      · have := up_any (nm (joinL (rootJ ns) n.data.toList)) w (by omega)
        rw [nm_data, up_join ns _ hg hb] at this; exact this
      · have := clean_any (nm (joinL (rootJ ns) n.data.toList)) w (by omega)
        rw [nm_data, clean_join ns _ hg hb] at this; exact this
    have A1 := Lib.hid a1; have A2 := Lib.hid a2; clear a1 a2 hNL hcl
    have q0 : (nm (rootJ ns)).toList = rootJ ns := by rw [listD]; rfl
    have Q0 := Lib.hid q0; clear q0 hdd
    generalize nm (joinL (rootJ ns) n.data.toList) = P at *
    by_cases hE : partsE (rootJ ns) = 0
    · rw [hE, hpl hE] at a4
      have A4 := Lib.hid a4; clear a4 hpl hE
      cases hb : nameB n.data.toList with
      | true =>
        obtain ⟨a5, a6, a7⟩ := h5 hb
        rw [hb] at a3
        have A3 := Lib.hid a3; have A5 := Lib.hid a5; have A6 := Lib.hid a6; have A7 := Lib.hid a7; clear a3 a5 a6 a7 h5 hb hg
        go_enter Tryd.func8, Tryd.ntmps8
        go_wp2_with fail
        refine (A1.out _).mono ?_
        rintro e w1 ⟨rfl, hb1⟩
        go_wp2_with fail
        refine (A2.out _).mono ?_
        rintro e w2 ⟨rfl, rfl⟩
        go_wp2_with fail
        refine (A3.out _).mono ?_
        rintro e w2 ⟨rfl, hb2⟩
        have hbN := hb1.trans (hb2.mono hb1.size)
        go_wp2_with fail
        refine (A5.out _).mono ?_
        rintro e w5 ⟨rfl, rfl⟩
        go_wp2_with fail
        refine (A6.out _).mono ?_
        rintro e w5 ⟨rfl, rfl⟩
        go_wp2_with fail
        refine (A7.out _).mono ?_
        rintro e w5 ⟨rfl, hb5⟩
        have hbN := hbN.trans (hb5.mono hbN.size)
        go_wp2_with fail
        refine (A4.out _).mono ?_
        rintro e w3 ⟨v, rfl, hr3, hb3⟩
        have hbb := hbN.trans (hb3.mono hbN.size)
        rcases ownsRow_two hr3 with ⟨rfl, hk0⟩ | ⟨g, cap, rfl, hkc, hcm, hg1, hg2⟩
        · have hnil : ns = [] := List.length_eq_zero_iff.1 hk0
          have q1 : (nm (rootJ ns)).toList = [47] := by rw [hnil, listD]; rfl
          have HNN := Lib.hid hnil
          clear hr3 hnil hk0
          generalize nm (rootJ ns) = D at *
          go_wp2_with fail
          go_loop [10, 11] (fun s i => s = .string ⟨#[47]⟩ ∧ i = .int .i64 0) (fun _ i => 0)
          case atStart => exact ⟨rfl, rfl⟩
          case round =>
            obtain ⟨rfl, rfl⟩ := hrel
            go_wp2_with fail
            refine (awake_any _).mono ?_
            rintro e w4 ⟨rfl, hb4⟩
            go_wp2_with fail
            go_ret
            exact ⟨rfl, hbb.trans (hb4.mono hbb.size)⟩
        · have k1 := row_cells hr3
          have K1 := Lib.hid k1; clear k1 hr3
          go_wp2_with fail
          go_loop [10, 11] (fun s i => ∃ k : Nat, k ≤ ns.length ∧ s = .string (nm (rootJ (ns.take k))) ∧ i = .int .i64 k) (fun _ i => ns.length - (intOf i).toNat)
          case atStart => exact ⟨0, by omega, rfl, rfl⟩
          case round =>
            obtain ⟨k, hk, rfl, rfl⟩ := hrel
            by_cases hlt : k < ns.length
            · have hcw := K1.out k hlt
              have hj := rootJ_succ HG.out k hlt
              have hl1 := rootJ_take_len ns k
              have hl2 := HNL.out ns[k] (List.getElem_mem _)
              have b1 := fun w => join_any (nm (rootJ (ns.take k))) (nm ns[k]) w (by rw [nm_size, nm_size]; unfold maxLen; omega)
              rw [nm_data, nm_data, hj] at b1
              have B1 := Lib.hid b1; clear b1 hj hl1 hl2
              go_wp2_with fail
              refine (B1.out _).mono ?_
              rintro e w4 ⟨rfl, rfl⟩
              go_wp2_with fail
              go_round
              case rel => exact ⟨k + 1, by omega, rfl, by go_num⟩
              case measure => simp [intOf]; omega
            · have hkk : k = ns.length := by omega
              have htk : ns.take k = ns := by rw [hkk]; exact List.take_length
              rw [htk]
              clear htk hkk
              generalize nm (rootJ ns) = D at *
              go_wp2_with fail
              refine (awake_any _).mono ?_
              rintro e w4 ⟨rfl, hb4⟩
              go_wp2_with fail
              go_ret
              exact ⟨rfl, hbb.trans (hb4.mono hbb.size)⟩
      | false =>
        rw [hb] at a3
        have A3 := Lib.hid a3; clear a3 h5 hb hg
        go_enter Tryd.func8, Tryd.ntmps8
        go_wp2_with fail
        refine (A1.out _).mono ?_
        rintro e w1 ⟨rfl, hb1⟩
        go_wp2_with fail
        refine (A2.out _).mono ?_
        rintro e w2 ⟨rfl, rfl⟩
        go_wp2_with fail
        refine (A3.out _).mono ?_
        rintro e w2 ⟨rfl, hb2⟩
        have hbN := hb1.trans (hb2.mono hb1.size)
        go_wp2_with fail
        refine (A4.out _).mono ?_
        rintro e w3 ⟨v, rfl, hr3, hb3⟩
        have hbb := hbN.trans (hb3.mono hbN.size)
        rcases ownsRow_two hr3 with ⟨rfl, hk0⟩ | ⟨g, cap, rfl, hkc, hcm, hg1, hg2⟩
        · have hnil : ns = [] := List.length_eq_zero_iff.1 hk0
          have q1 : (nm (rootJ ns)).toList = [47] := by rw [hnil, listD]; rfl
          have HNN := Lib.hid hnil
          clear hr3 hnil hk0
          generalize nm (rootJ ns) = D at *
          go_wp2_with fail
          go_loop [10, 11] (fun s i => s = .string ⟨#[47]⟩ ∧ i = .int .i64 0) (fun _ i => 0)
          case atStart => exact ⟨rfl, rfl⟩
          case round =>
            obtain ⟨rfl, rfl⟩ := hrel
            go_wp2_with fail
            refine (awake_any _).mono ?_
            rintro e w4 ⟨rfl, hb4⟩
            go_wp2_with fail
            go_ret
            exact ⟨rfl, hbb.trans (hb4.mono hbb.size)⟩
        · have k1 := row_cells hr3
          have K1 := Lib.hid k1; clear k1 hr3
          go_wp2_with fail
          go_loop [10, 11] (fun s i => ∃ k : Nat, k ≤ ns.length ∧ s = .string (nm (rootJ (ns.take k))) ∧ i = .int .i64 k) (fun _ i => ns.length - (intOf i).toNat)
          case atStart => exact ⟨0, by omega, rfl, rfl⟩
          case round =>
            obtain ⟨k, hk, rfl, rfl⟩ := hrel
            by_cases hlt : k < ns.length
            · have hcw := K1.out k hlt
              have hj := rootJ_succ HG.out k hlt
              have hl1 := rootJ_take_len ns k
              have hl2 := HNL.out ns[k] (List.getElem_mem _)
              have b1 := fun w => join_any (nm (rootJ (ns.take k))) (nm ns[k]) w (by rw [nm_size, nm_size]; unfold maxLen; omega)
              rw [nm_data, nm_data, hj] at b1
              have B1 := Lib.hid b1; clear b1 hj hl1 hl2
              go_wp2_with fail
              refine (B1.out _).mono ?_
              rintro e w4 ⟨rfl, rfl⟩
              go_wp2_with fail
              go_round
              case rel => exact ⟨k + 1, by omega, rfl, by go_num⟩
              case measure => simp [intOf]; omega
            · have hkk : k = ns.length := by omega
              have htk : ns.take k = ns := by rw [hkk]; exact List.take_length
              rw [htk]
              clear htk hkk
              generalize nm (rootJ ns) = D at *
              go_wp2_with fail
              refine (awake_any _).mono ?_
              rintro e w4 ⟨rfl, hb4⟩
              go_wp2_with fail
              go_ret
              exact ⟨rfl, hbb.trans (hb4.mono hbb.size)⟩
    · have hE2 : ((partsE (rootJ ns) : Int) != 0) = true := by simp; omega
      generalize partsE (rootJ ns) = E at *
      have A4 := Lib.hid a4; clear a4 hpl hE
      cases hb : nameB n.data.toList with
      | true =>
        obtain ⟨a5, a6, a7⟩ := h5 hb
        rw [hb] at a3
        have A3 := Lib.hid a3; have A5 := Lib.hid a5; have A6 := Lib.hid a6; have A7 := Lib.hid a7; clear a3 a5 a6 a7 h5 hb hg
        go_enter Tryd.func8, Tryd.ntmps8
        go_wp2_with fail
        refine (A1.out _).mono ?_
        rintro e w1 ⟨rfl, hb1⟩
        go_wp2_with fail
        refine (A2.out _).mono ?_
        rintro e w2 ⟨rfl, rfl⟩
        go_wp2_with fail
        refine (A3.out _).mono ?_
        rintro e w2 ⟨rfl, hb2⟩
        have hbN := hb1.trans (hb2.mono hb1.size)
        go_wp2_with fail
        refine (A5.out _).mono ?_
        rintro e w5 ⟨rfl, rfl⟩
        go_wp2_with fail
        refine (A6.out _).mono ?_
        rintro e w5 ⟨rfl, rfl⟩
        go_wp2_with fail
        refine (A7.out _).mono ?_
        rintro e w5 ⟨rfl, hb5⟩
        have hbN := hbN.trans (hb5.mono hbN.size)
        go_wp2_with fail
        refine (A4.out _).mono ?_
        rintro e w3 ⟨v, rfl, hr3, hb3⟩
        have R3 := Lib.hid hr3; clear hr3
        have hbb := hbN.trans (hb3.mono hbN.size)
        go_wp2_with fail
        refine (awake_any _).mono ?_
        rintro e w4 ⟨rfl, hb4⟩
        go_wp2_with fail
        go_ret
        exact ⟨rfl, hbb.trans (hb4.mono hbb.size)⟩
      | false =>
        rw [hb] at a3
        have A3 := Lib.hid a3; clear a3 h5 hb hg
        go_enter Tryd.func8, Tryd.ntmps8
        go_wp2_with fail
        refine (A1.out _).mono ?_
        rintro e w1 ⟨rfl, hb1⟩
        go_wp2_with fail
        refine (A2.out _).mono ?_
        rintro e w2 ⟨rfl, rfl⟩
        go_wp2_with fail
        refine (A3.out _).mono ?_
        rintro e w2 ⟨rfl, hb2⟩
        have hbN := hb1.trans (hb2.mono hb1.size)
        go_wp2_with fail
        refine (A4.out _).mono ?_
        rintro e w3 ⟨v, rfl, hr3, hb3⟩
        have R3 := Lib.hid hr3; clear hr3
        have hbb := hbN.trans (hb3.mono hbN.size)
        go_wp2_with fail
        refine (awake_any _).mono ?_
        rintro e w4 ⟨rfl, hb4⟩
        go_wp2_with fail
        go_ret
        exact ⟨rfl, hbb.trans (hb4.mono hbb.size)⟩

end Go.Proofs.YtfchofdoabhakaaDoor
