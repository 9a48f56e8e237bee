/- DERIVED. Walks: Entries, within, holds of package tree. -/
import Derived.Test.YtkmnbbocahjmaaaGreatDoorTreeFind
import Derived.Test.YtkmnbbocahjmaaaGreatDoorTName
import Derived.Lib.QuietBelow
namespace Go.Proofs.YtkmnbbocahjmaaaGreatDoor
open Go.RowKit Go.Sort
open PathM TreeM
set_option linter.unusedVariables false

theorem cell_rg (w : World) (d : Nat) (os : Array Obj) (a : Addr) (h : a.block < w.heap.size) : (grow (redrawn w d) os).cell? a = w.cell? a := (below_regrown w d os).cell h
attribute [local go_sem] cell_rg

theorem le_false {a b : Bs} (h : a < b) : (Op.bytesLess (nm b).toList (nm a).toList || (nm b).toList == (nm a).toList) = false := by
  rw [bytesLess_eq, listD, listD]
  show (decide (b < a) || b == a) = false
  have h1 : ¬ b < a := fun h2 => bs_irrefl _ (bs_trans _ _ _ h h2)
  have h2 : b ≠ a := fun e => by subst e; exact bs_irrefl _ h
  simp [h1, h2]
theorem le_true {a b : Bs} (h : ¬ a < b) : (Op.bytesLess (nm b).toList (nm a).toList || (nm b).toList == (nm a).toList) = true := by
  rw [bytesLess_eq, listD, listD]
  show (decide (b < a) || b == a) = true
  rcases bs_tri a b with h1 | h1 | h1
  · exact absurd h1 h
  · subst h1; simp
  · simp [h1]

set_option maxHeartbeats 2000000 in
theorem ents_any (v : Value) (es : List Ent) (B : Nat) (w : World) (hE : EntsIn w B v es) (hB : B ≤ w.heap.size) :
    Calls Tryz.prog 156 #[v] w fun e w' => e = .returned (.bool (entsB es)) ∧ Below w.heap.size w w' := by
  obtain ⟨hlen, hkeys, ⟨A, c, rfl, h0⟩ | ⟨b, off, c, rfl, hcap, hb, hpos, hcells⟩⟩ := hE.cases
  · subst h0
    go_enter Tryz.func156, Tryz.ntmps156
    go_wp2
    refine wp_loop_rounds 1 ?_
    rw [rounds_succ]
    go_wp2
    go_ret
    exact ⟨rfl, Below.refl _ _⟩
  obtain ⟨r, hr⟩ : ∃ r, entsB es = r := ⟨_, rfl⟩
  rw [hr]
  have hfail : ∀ k, k < es.length → okEnt es k = false → r = false := fun k hk h => by rw [← hr]; exact allTo_not hk h
  have hall : allTo (okEnt es) es.length = true → r = true := fun h => by rw [← hr]; exact h
  have hok : ∀ k, okEnt es k = (nameB (entAt es k).key && (k == 0 || decide ((entAt es (k - 1)).key < (entAt es k).key))) := fun k => rfl
  have hkl : ∀ k, k < es.length → (entAt es k).key.length ≤ 140737488351232 := fun k hk => (hkeys _ (entAt_mem hk)).1
  clear hkeys hE
  generalize hn : es.length = n at *
  have HN := Lib.hid hn; have HR := Lib.hid hr; have HF := Lib.hid hfail; have HA := Lib.hid hall; have HK := Lib.hid hok; have HL := Lib.hid hkl; have HC := Lib.hid hcells
  clear hn hr hfail hall hok hkl hcells
  go_enter Tryz.func156, Tryz.ntmps156
  go_wp2
  go_loopw [7] (fun i wr => ∃ k : Nat, k ≤ n ∧ i = .int .i64 k ∧ allTo (okEnt es) k = true ∧ Below w.heap.size w wr) (fun i _ => n - (intOf i).toNat)
  case atStart => exact ⟨0, by omega, rfl, rfl, Below.refl _ _⟩
  case round =>
    obtain ⟨k, hk, rfl, hto, hbel⟩ := hrel
    have HT := Lib.hid hto; clear hto
    by_cases hlt : k < n
    · obtain ⟨cc0, cc1⟩ := HC.out k hlt
      have c0 : wr.cell? ⟨b, off + k * 2, none⟩ = some (.string (nm (entAt es k).key)) := (hbel.cell (p := ⟨b, off + k * 2, none⟩) (show b < w.heap.size by omega)).trans cc0
      have c1 : wr.cell? ⟨b, off + k * 2 + 1, none⟩ = some (.int .i64 (entAt es k).to) := (hbel.cell (p := ⟨b, off + k * 2 + 1, none⟩) (show b < w.heap.size by omega)).trans cc1
      have hkk : (k : Int) < (n : Int) := by omega
      have hwr : w.heap.size ≤ wr.heap.size := hbel.size
      have hNM := fun W => name_any (nm (entAt es k).key) W (by rw [nm_size]; unfold maxLen; have := HL.out k hlt; omega)
      rw [nm_data] at hNM
      have hok1 := HK.out k
      cases hnb : nameB (entAt es k).key with
      | false =>
        rw [hnb] at hNM hok1
        have HO := Lib.hid (HF.out k hlt (by rw [hok1]; rfl))
        have HNM := Lib.hid hNM
        clear hNM hok1 hnb cc0 cc1
        go_wp2
        refine wp_region_quiet_below (by kernel_rfl) (by kernel_rfl) ?_
        repeat (first | go_big_quiet_step ((go_at_call 163; exact Calls.regrown_of (HNM.out _))) | quiet_step ((go_at_call 163; exact Calls.regrown_of (HNM.out _))))
        refine wpQuiet_nil ?_
        intro _ hw'
        obtain ⟨⟨dq, osq⟩, hw''⟩ := hw'
        subst hw''
        all_goals go_wp2
        all_goals go_ret
        all_goals exact ⟨ret_bool HO.out.symm, (hbel.alloc hwr _).trans ((below_regrown _ dq osq).mono (by simp; omega))⟩
      | true =>
        rw [hnb] at hNM hok1
        have HNM := Lib.hid hNM
        by_cases hk0 : k = 0
        · have HO := Lib.hid (allTo_succ HT.out (by rw [hok1, hk0]; rfl))
          have hd : decide ((0 : Int) < (k : Int)) = false := by simp; omega
          have hd2 : decide (0 < k) = false := by simp; omega
          clear hNM hok1 hnb cc0 cc1 hk0
          go_wp2
          refine wp_region_quiet_below (by kernel_rfl) (by kernel_rfl) ?_
          repeat (first | go_big_quiet_step ((go_at_call 163; exact Calls.regrown_of (HNM.out _))) | quiet_step ((go_at_call 163; exact Calls.regrown_of (HNM.out _))))
          refine wpQuiet_nil ?_
          intro _ hw'
          obtain ⟨⟨dq, osq⟩, hw''⟩ := hw'
          subst hw''
          go_wp2
          go_roundw
          case rel => exact ⟨k + 1, by omega, by go_num, HO.out, (hbel.alloc hwr _).trans ((below_regrown _ dq osq).mono (by simp; omega))⟩
          case measure => simp [intOf]; omega
        · have hd : decide ((0 : Int) < (k : Int)) = true := by simp; omega
          have hd2 : decide (0 < k) = true := by simp; omega
          obtain ⟨pc0, _⟩ := HC.out (k - 1) (by omega)
          have p0 : wr.cell? ⟨b, off + (k - 1) * 2, none⟩ = some (.string (nm (entAt es (k - 1)).key)) := (hbel.cell (p := ⟨b, off + (k - 1) * 2, none⟩) (show b < w.heap.size by omega)).trans pc0
          have hbw : b < wr.heap.size := by omega
          have hbw1 : b < wr.heap.size + 1 := by omega
          have hk1 : (0 : Int) ≤ (k : Int) - 1 := by omega
          have hk2 : (k : Int) - 1 < (n : Int) := by omega
          have hk3 : ((k : Int) - 1).toNat = k - 1 := by omega
          by_cases hord : (entAt es (k - 1)).key < (entAt es k).key
          · have hle := le_false hord
            have HO := Lib.hid (allTo_succ HT.out (by rw [hok1]; simp [hord]))
            clear hNM hok1 hnb cc0 cc1 hk0 hord pc0
            go_wp2
            refine wp_region_quiet_below (by kernel_rfl) (by kernel_rfl) ?_
            repeat (first | go_big_quiet_step ((go_at_call 163; exact Calls.regrown_of (HNM.out _))) | quiet_step ((go_at_call 163; exact Calls.regrown_of (HNM.out _))))
            refine wpQuiet_nil ?_
            intro _ hw'
            obtain ⟨⟨dq, osq⟩, hw''⟩ := hw'
            subst hw''
            go_wp2
            go_roundw
            case rel => exact ⟨k + 1, by omega, by go_num, HO.out, (hbel.alloc hwr _).trans ((below_regrown _ dq osq).mono (by simp; omega))⟩
            case measure => simp [intOf]; omega
          · have hle := le_true hord
            have HO := Lib.hid (HF.out k hlt (by rw [hok1]; simp [hord, hk0]))
            clear hNM hok1 hnb cc0 cc1 hk0 hord pc0
            go_wp2
            refine wp_region_quiet_below (by kernel_rfl) (by kernel_rfl) ?_
            repeat (first | go_big_quiet_step ((go_at_call 163; exact Calls.regrown_of (HNM.out _))) | quiet_step ((go_at_call 163; exact Calls.regrown_of (HNM.out _))))
            refine wpQuiet_nil ?_
            intro _ hw'
            obtain ⟨⟨dq, osq⟩, hw''⟩ := hw'
            subst hw''
            go_wp2
            go_ret
            exact ⟨ret_bool HO.out.symm, (hbel.alloc hwr _).trans ((below_regrown _ dq osq).mono (by simp; omega))⟩
    · have hkn : k = n := by omega
      have HO := Lib.hid (HA.out (by rw [← hkn]; exact HT.out))
      clear hkn
      go_wp2
      go_ret
      exact ⟨ret_bool HO.out.symm, hbel⟩

end Go.Proofs.YtkmnbbocahjmaaaGreatDoor
