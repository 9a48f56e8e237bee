/- DERIVED. Walks: Entries, plain of the document's own answer. -/
import Derived.Test.YtkmnbbocahjmaaaGreatDoorTreeChk2
namespace Go.Proofs.YtkmnbbocahjmaaaGreatDoor
open Go.RowKit Go.Sort
open PathM TreeM
set_option linter.unusedVariables false

attribute [local go_sem] cell_rg

set_option maxHeartbeats 2000000 in
theorem rents_any (v : Value) (es : List Ent) (B : Nat) (w : World) (hE : EntsIn w B v es) (hB : B ≤ w.heap.size) :
    Calls Tryz.prog 91 #[v] w fun e w' => e = .returned (.bool (entsB es)) ∧ Below w.heap.size w w' := by
  obtain ⟨hlen, hkeys, ⟨A, c, rfl, h0⟩ | ⟨b, off, c, rfl, hcap, hb, hpos, hcells⟩⟩ := hE.cases
  · subst h0
    go_enter Tryz.func91, Tryz.ntmps91
    go_wp2
    refine wp_loop_rounds 1 ?_
    rw [rounds_succ]
    go_wp2
    go_ret
    exact ⟨rfl, Below.refl _ _⟩
  obtain ⟨r, hr⟩ : ∃ r, entsB es = r := ⟨_, rfl⟩
  rw [hr]
  have hfail : ∀ k, k < es.length → okEnt es k = false → r = false := fun k hk h => by rw [← hr]; exact allTo_not hk h
  have hall : allTo (okEnt es) es.length = true → r = true := fun h => by rw [← hr]; exact h
  have hok : ∀ k, okEnt es k = (nameB (entAt es k).key && (k == 0 || decide ((entAt es (k - 1)).key < (entAt es k).key))) := fun k => rfl
  have hkl : ∀ k, k < es.length → (entAt es k).key.length ≤ 140737488351232 := fun k hk => (hkeys _ (entAt_mem hk)).1
  clear hkeys hE
  generalize hn : es.length = n at *
  have HN := Lib.hid hn; have HR := Lib.hid hr; have HF := Lib.hid hfail; have HA := Lib.hid hall; have HK := Lib.hid hok; have HL := Lib.hid hkl; have HC := Lib.hid hcells
  clear hn hr hfail hall hok hkl hcells
  go_enter Tryz.func91, Tryz.ntmps91
  go_wp2
  go_loopw [3] (fun i wr => ∃ k : Nat, k ≤ n ∧ i = .int .i64 k ∧ allTo (okEnt es) k = true ∧ Below w.heap.size w wr) (fun i _ => n - (intOf i).toNat)
  case atStart => exact ⟨0, by omega, rfl, rfl, Below.refl _ _⟩
  case round =>
    obtain ⟨k, hk, rfl, hto, hbel⟩ := hrel
    have HT := Lib.hid hto; clear hto
    by_cases hlt : k < n
    · obtain ⟨cc0, cc1⟩ := HC.out k hlt
      have hbw : b < wr.heap.size := by have := hbel.size; omega
      have c0 : wr.cell? ⟨b, off + k * 2, none⟩ = some (.string (nm (entAt es k).key)) := (hbel.cell (p := ⟨b, off + k * 2, none⟩) (show b < w.heap.size by omega)).trans cc0
      have hkk : (k : Int) < (n : Int) := by omega
      have hwr : w.heap.size ≤ wr.heap.size := hbel.size
      have hNM : ∀ W, Calls Tryz.prog 16 #[.string (nm (entAt es k).key)] W fun e w' => e = .returned (.bool (nameB (entAt es k).key)) ∧ Below W.heap.size W w' := fun W =>
        (rname_any (nm (entAt es k).key) W (by rw [nm_size]; unfold maxLen; have := HL.out k hlt; omega)).mono fun _ _ ⟨h1, h2⟩ => ⟨h1, by subst h2; exact Below.refl _ _⟩
      have hok1 := HK.out k
      have HBE := Lib.hid hbel
      clear hbel
      cases hnb : nameB (entAt es k).key with
      | false =>
        rw [hnb] at hNM hok1
        have HO := Lib.hid (HF.out k hlt (by rw [hok1]; rfl))
        have HNM := Lib.hid hNM
        clear hNM hok1 hnb cc0 cc1
        go_wp2
        refine wp_region_quiet_below (by kernel_rfl) (by kernel_rfl) ?_
        repeat (first | go_big_quiet_step ((go_at_call 16; exact Calls.regrown_of (HNM.out _))) | quiet_step ((go_at_call 16; exact Calls.regrown_of (HNM.out _))))
        refine wpQuiet_nil ?_
        intro _ hw'
        obtain ⟨⟨dq, osq⟩, hw''⟩ := hw'
        subst hw''
        go_wp2
        go_ret
        exact ⟨ret_bool HO.out.symm, HBE.out.trans ((below_regrown _ dq osq).mono hwr)⟩
      | true =>
        rw [hnb] at hNM hok1
        have HNM := Lib.hid hNM
        by_cases hk0 : k = 0
        · have HO := Lib.hid (allTo_succ HT.out (by rw [hok1, hk0]; rfl))
          have hd : decide ((0 : Int) < (k : Int)) = false := by simp; omega
          have hd2 : decide (0 < k) = false := by simp; omega
          clear hNM hok1 hnb cc0 cc1 hk0
          go_wp2
          refine wp_region_quiet_below (by kernel_rfl) (by kernel_rfl) ?_
          repeat (first | go_big_quiet_step ((go_at_call 16; exact Calls.regrown_of (HNM.out _))) | quiet_step ((go_at_call 16; exact Calls.regrown_of (HNM.out _))))
          refine wpQuiet_nil ?_
          intro _ hw'
          obtain ⟨⟨dq, osq⟩, hw''⟩ := hw'
          subst hw''
          go_wp2
          go_roundw
          case rel => exact ⟨k + 1, by omega, by go_num, HO.out, HBE.out.trans ((below_regrown _ dq osq).mono hwr)⟩
          case measure => simp [intOf]; omega
        · have hd : decide ((0 : Int) < (k : Int)) = true := by simp; omega
          have hd2 : decide (0 < k) = true := by simp; omega
          obtain ⟨pc0, _⟩ := HC.out (k - 1) (by omega)
          have p0 : wr.cell? ⟨b, off + (k - 1) * 2, none⟩ = some (.string (nm (entAt es (k - 1)).key)) := (HBE.out.cell (p := ⟨b, off + (k - 1) * 2, none⟩) (show b < w.heap.size by omega)).trans pc0
          have hk1 : (0 : Int) ≤ (k : Int) - 1 := by omega
          have hk2 : (k : Int) - 1 < (n : Int) := by omega
          have hk3 : ((k : Int) - 1).toNat = k - 1 := by omega
          by_cases hord : (entAt es (k - 1)).key < (entAt es k).key
          · have hle := le_false hord
            have HO := Lib.hid (allTo_succ HT.out (by rw [hok1]; simp [hord]))
            clear hNM hok1 hnb cc0 cc1 hk0 hord pc0
            go_wp2
            refine wp_region_quiet_below (by kernel_rfl) (by kernel_rfl) ?_
            repeat (first | go_big_quiet_step ((go_at_call 16; exact Calls.regrown_of (HNM.out _))) | quiet_step ((go_at_call 16; exact Calls.regrown_of (HNM.out _))))
            refine wpQuiet_nil ?_
            intro _ hw'
            obtain ⟨⟨dq, osq⟩, hw''⟩ := hw'
            subst hw''
            go_wp2
            go_roundw
            case rel => exact ⟨k + 1, by omega, by go_num, HO.out, HBE.out.trans ((below_regrown _ dq osq).mono hwr)⟩
            case measure => simp [intOf]; omega
          · have hle := le_true hord
            have HO := Lib.hid (HF.out k hlt (by rw [hok1]; simp [hord, hk0]))
            clear hNM hok1 hnb cc0 cc1 hk0 hord pc0
            go_wp2
            refine wp_region_quiet_below (by kernel_rfl) (by kernel_rfl) ?_
            repeat (first | go_big_quiet_step ((go_at_call 16; exact Calls.regrown_of (HNM.out _))) | quiet_step ((go_at_call 16; exact Calls.regrown_of (HNM.out _))))
            refine wpQuiet_nil ?_
            intro _ hw'
            obtain ⟨⟨dq, osq⟩, hw''⟩ := hw'
            subst hw''
            go_wp2
            go_ret
            exact ⟨ret_bool HO.out.symm, HBE.out.trans ((below_regrown _ dq osq).mono hwr)⟩
    · have hkn : k = n := by omega
      have HO := Lib.hid (HA.out (by rw [← hkn]; exact HT.out))
      clear hkn
      go_wp2
      go_ret
      exact ⟨ret_bool HO.out.symm, hbel⟩

theorem nozero_step (l : Bs) (k : Nat) (h : k < l.length) : (l.take (k + 1)).contains 0 = ((l.take k).contains 0 || l[k] == 0) := contains_take_snoc l 0 k h

set_option maxHeartbeats 4000000 in
theorem rplain_any (ev : Value) (nd : Nd) (B : Nat) (w : World) (hE : EntsIn w B ev nd.es) (hB : B ≤ w.heap.size) (hD : nd.data.length ≤ 140737488351232) :
    Calls Tryz.prog 69 #[ndV ev nd] w fun e w' => e = .returned (.bool (plainB nd)) ∧ Below w.heap.size w w' := by
  have hent : ∀ W, Below w.heap.size w W → Calls Tryz.prog 91 #[ev] W fun e w' => e = .returned (.bool (entsB nd.es)) ∧ Below W.heap.size W w' :=
    fun W hW => rents_any ev nd.es w.heap.size W ((hE.more hB).below hW) hW.size
  obtain ⟨A, c, rfl, hlen⟩ := ents_len hE
  rw [plain_holds]
  unfold holdsB ndV
  rw [nil_len]
  obtain ⟨id, kind, mode, owner, time, data, es⟩ := nd
  simp only at *
  have hsz : (nm data).size = data.length := nm_size _
  generalize es.length = m at *
  generalize entsB es = eb at *
  obtain ⟨r, hr⟩ : ∃ r, (decide (0 ≤ mode ∧ mode ≤ 511 ∧ 0 ≤ owner ∧ owner ≤ 65535 ∧ 0 ≤ time ∧ time ≤ 1099511627776) && if kind = 1 then decide (data = []) && eb else if kind = 2 then decide (data.length ≤ 4096) && decide (m = 0) else if kind = 3 then decide (data ≠ []) && decide (data.length ≤ 256) && !data.contains 0 && decide (m = 0) else false) = r := ⟨_, rfl⟩
  rw [hr]
  have hBA : Below w.heap.size w (w.alloc (.cells #[.int .i64 id, .int .i64 kind, .int .i64 mode, .int .i64 owner, .int .i64 time, .string (nm data), .slice A m c] 64)) := (Below.refl _ _).alloc (Nat.le_refl _) _
  have HBA := Lib.hid hBA
  have HSZ := Lib.hid hsz
  have HENT := Lib.hid hent
  clear hent hBA hE
  by_cases hrange : 0 ≤ mode ∧ mode ≤ 511 ∧ 0 ≤ owner ∧ owner ≤ 65535 ∧ 0 ≤ time ∧ time ≤ 1099511627776
  · obtain ⟨g1, g2, g3, g4, g5, g6⟩ := hrange
    have e1 : decide (mode < 0) = false := by simp; omega
    have e2 : decide (511 < mode) = false := by simp; omega
    have e3 : decide (owner < 0) = false := by simp; omega
    have e4 : decide (65535 < owner) = false := by simp; omega
    have e5 : decide (time < 0) = false := by simp; omega
    have e6 : decide (1099511627776 < time) = false := by simp; omega
    rw [decide_eq_true ⟨g1, g2, g3, g4, g5, g6⟩, Bool.true_and] at hr
    by_cases k1 : kind = 1
    · rw [if_pos k1] at hr
      have q1 : (kind == 1) = true := by simp [k1]
      by_cases hd : data = []
      · have e1' := emp_yes (b := nm data) (by rw [nm_data]; exact hd)
        have HR : Hid (eb = r) := Lib.hid (by rw [← hr]; simp [hd])
        clear hr hd k1 hsz
        go_enter Tryz.func69, Tryz.ntmps69
        go_wp2_with (go_at_call 91; refine (HENT.out _ HBA.out).mono ?_; rintro e w' ⟨rfl, hb⟩)
        go_ret
        exact ⟨ret_bool HR.out, HBA.out.trans (hb.mono HBA.out.size)⟩
      · have e1' := emp_no (b := nm data) (by rw [nm_data]; exact hd)
        have HR : Hid (false = r) := Lib.hid (by rw [← hr]; simp [hd])
        clear hr hd k1 hsz
        go_enter Tryz.func69, Tryz.ntmps69
        go_wp2
        go_ret
        exact ⟨ret_bool HR.out, HBA.out⟩
    · rw [if_neg k1] at hr
      have q1 : (kind == 1) = false := by simp [k1]
      by_cases hm : 0 < m
      · have hmi : (0 : Int) < (m : Int) := by omega
        have HR : Hid (false = r) := Lib.hid (by
          rw [← hr]
          have : ¬ m = 0 := by omega
          split <;> simp [this])
        clear hr k1 hsz
        go_enter Tryz.func69, Tryz.ntmps69
        go_wp2
        go_ret
        exact ⟨ret_bool HR.out, HBA.out⟩
      · have hm0 : m = 0 := by omega
        subst hm0
        rw [decide_eq_true (show (0 : Nat) = 0 from rfl)] at hr
        by_cases k3 : kind = 3
        · have q3 : (kind == 3) = true := by simp [k3]
          have q2 : (kind == 2) = false := by simp [k3]
          rw [if_neg (by omega), if_pos k3] at hr
          have HRE := Lib.hid hr
          clear hr k1 k3
          go_enter Tryz.func69, Tryz.ntmps69
          go_wp2
          go_loop [3] (fun i => ∃ k : Nat, k ≤ data.length ∧ i = .int .i64 k ∧ Hid ((data.take k).contains 0 = false)) (fun i => data.length - (intOf i).toNat)
          case atStart => exact ⟨0, by omega, rfl, rfl⟩
          case round =>
            obtain ⟨k, hk, rfl, HT⟩ := hrel
            by_cases hlt : k < data.length
            · have hks : k < (nm data).size := by omega
              have hki : (k : Int) < ((nm data).size : Int) := by omega
              have hbyte : (nm data)[k] = data[k] := rfl
              have hst := nozero_step data k hlt
              rw [HT.out, Bool.false_or] at hst
              by_cases hz : data[k] = 0
              · have HR : Hid (false = r) := Lib.hid (by
                  have hc : data.contains 0 = true := by rw [List.contains_iff_mem]; exact hz ▸ List.getElem_mem hlt
                  rw [← HRE.out, hc]; simp)
                have q5 : ((((nm data)[k]).toNat : Int) == 0) = true := by rw [hbyte, hz]; rfl
                clear hst hz hbyte hsz
                go_wp2
                go_ret
                exact ⟨ret_bool HR.out, HBA.out⟩
              · have q5 : ((((nm data)[k]).toNat : Int) == 0) = false := by
                  rw [hbyte]; refine beq_eq_false_iff_ne.2 (fun h => hz (UInt8.toNat_inj.1 ?_))
                  have : (0 : UInt8).toNat = 0 := rfl
                  omega
                have HO : Hid ((data.take (k + 1)).contains 0 = false) := Lib.hid (by rw [hst]; exact beq_eq_false_iff_ne.2 hz)
                clear hst hz hbyte hsz
                go_wp2
                go_round
                case rel => exact ⟨k + 1, by omega, by go_num, HO⟩
                case measure => simp [intOf]; omega
            · have hkn : k = data.length := by omega
              have hnz : data.contains 0 = false := by have := HT.out; rwa [hkn, List.take_length] at this
              have hki : ¬ (k : Int) < ((nm data).size : Int) := by omega
              have hki2 : decide ((k : Int) < ((nm data).size : Int)) = false := by simp; omega
              have hki3 : decide (k < (nm data).size) = false := by simp; omega
              have hre := HRE.out
              rw [hnz] at hre
              by_cases hd : data = []
              · have HR : Hid (false = r) := Lib.hid (by rw [← hre]; simp [hd])
                have h0 : (nm data).size = 0 := by rw [hsz, hd]; rfl
                have h1 : ¬ 1 ≤ (nm data).size := by omega
                have h2 : decide (1 ≤ ((nm data).size : Int)) = false := by rw [h0]; rfl
                have h3 : decide (1 ≤ (nm data).size) = false := by rw [h0]; rfl
                have h4 : decide (0 < (nm data).size) = false := by rw [h0]; rfl
                have H0 := Lib.hid h0
                clear h0
                clear hre hnz hkn hd hsz
                go_wp2
                go_ret
                exact ⟨ret_bool (by simp; exact HR.out.symm), HBA.out⟩
              · have hpos : 1 ≤ (nm data).size := by rw [hsz]; exact List.length_pos_iff.2 hd
                have h2 : decide (1 ≤ ((nm data).size : Int)) = true := by simp; omega
                have h3 : decide (1 ≤ (nm data).size) = true := by simp; omega
                have h4 : decide (0 < (nm data).size) = true := by simp; omega
                have HR : Hid (decide ((nm data).size ≤ 256) = r) := Lib.hid (by rw [← hre, hsz]; simp [hd])
                clear hre hnz hkn hd hsz
                go_wp2
                go_ret
                exact ⟨ret_bool (by rw [← HR.out]; rw [Bool.eq_iff_iff]; simp; omega), HBA.out⟩
        · have q3 : (kind == 3) = false := by simp [k3]
          rw [if_neg k3] at hr
          by_cases k2 : kind = 2
          · have q2 : (kind == 2) = true := by simp [k2]
            rw [if_pos k2] at hr
            have HR : Hid (decide ((nm data).size ≤ 4096) = r) := Lib.hid (by rw [← hr, hsz]; simp)
            clear hr k1 k2 k3 hsz
            generalize nm data = D at *
            by_cases h4096 : D.size ≤ 4096
            · have h1 : decide ((D.size : Int) ≤ 4096) = true := by simp; omega
              have H9 : Hid (true = r) := Lib.hid (by rw [← HR.out]; simp [h4096])
              by_cases h0 : 0 < D.size
              · have h2 : decide ((0 : Int) < (D.size : Int)) = true := by simp; omega
                have h3 : decide (0 < D.size) = true := by simp; omega
                go_enter Tryz.func69, Tryz.ntmps69
                go_wp2
                refine wp_loop_rounds 1 ?_
                rw [rounds_succ]
                go_wp2
                go_ret
                exact ⟨ret_bool H9.out, HBA.out⟩
              · have h2 : decide ((0 : Int) < (D.size : Int)) = false := decide_eq_false (by omega)
                have h3 : decide (0 < D.size) = false := decide_eq_false h0
                go_enter Tryz.func69, Tryz.ntmps69
                go_wp2
                refine wp_loop_rounds 1 ?_
                rw [rounds_succ]
                go_wp2
                go_ret
                exact ⟨ret_bool H9.out, HBA.out⟩
            · have h1 : decide ((D.size : Int) ≤ 4096) = false := by simp; omega
              have H9 : Hid (false = r) := Lib.hid (by rw [← HR.out]; simp [h4096])
              have h0 : 0 < D.size := by omega
              have h2 : decide ((0 : Int) < (D.size : Int)) = true := by simp; omega
              have h3 : decide (0 < D.size) = true := by simp; omega
              go_enter Tryz.func69, Tryz.ntmps69
              go_wp2
              refine wp_loop_rounds 1 ?_
              rw [rounds_succ]
              go_wp2
              go_ret
              exact ⟨ret_bool H9.out, HBA.out⟩
          · have q2 : (kind == 2) = false := by simp [k2]
            rw [if_neg k2] at hr
            have H9 : Hid (false = r) := Lib.hid hr
            clear hr k1 k2 k3 hsz
            generalize nm data = D at *
            by_cases h0 : 0 < D.size
            · have h2 : decide ((0 : Int) < (D.size : Int)) = true := by simp; omega
              have h3 : decide (0 < D.size) = true := by simp; omega
              go_enter Tryz.func69, Tryz.ntmps69
              go_wp2
              refine wp_loop_rounds 1 ?_
              rw [rounds_succ]
              go_wp2
              go_ret
              exact ⟨ret_bool H9.out, HBA.out⟩
            · have h2 : decide ((0 : Int) < (D.size : Int)) = false := decide_eq_false (by omega)
              have h3 : decide (0 < D.size) = false := decide_eq_false h0
              go_enter Tryz.func69, Tryz.ntmps69
              go_wp2
              refine wp_loop_rounds 1 ?_
              rw [rounds_succ]
              go_wp2
              go_ret
              exact ⟨ret_bool H9.out, HBA.out⟩
  · have HR : Hid (false = r) := Lib.hid (by rw [← hr, decide_eq_false hrange]; rfl)
    clear hr hsz
    generalize nm data = D at *
    by_cases x1 : mode < 0
    · have e1 : decide (mode < 0) = true := by simpa using x1
      clear hrange
      go_enter Tryz.func69, Tryz.ntmps69
      go_wp2
      go_ret
      exact ⟨ret_bool HR.out, HBA.out⟩
    have e1 : decide (mode < 0) = false := by simpa using x1
    by_cases x2 : 511 < mode
    · have e2 : decide (511 < mode) = true := by simpa using x2
      clear hrange
      go_enter Tryz.func69, Tryz.ntmps69
      go_wp2
      go_ret
      exact ⟨ret_bool HR.out, HBA.out⟩
    have e2 : decide (511 < mode) = false := by simpa using x2
    by_cases x3 : owner < 0
    · have e3 : decide (owner < 0) = true := by simpa using x3
      clear hrange
      go_enter Tryz.func69, Tryz.ntmps69
      go_wp2
      go_ret
      exact ⟨ret_bool HR.out, HBA.out⟩
    have e3 : decide (owner < 0) = false := by simpa using x3
    by_cases x4 : 65535 < owner
    · have e4 : decide (65535 < owner) = true := by simpa using x4
      clear hrange
      go_enter Tryz.func69, Tryz.ntmps69
      go_wp2
      go_ret
      exact ⟨ret_bool HR.out, HBA.out⟩
    have e4 : decide (65535 < owner) = false := by simpa using x4
    by_cases x5 : time < 0
    · have e5 : decide (time < 0) = true := by simpa using x5
      clear hrange
      go_enter Tryz.func69, Tryz.ntmps69
      go_wp2
      go_ret
      exact ⟨ret_bool HR.out, HBA.out⟩
    have e5 : decide (time < 0) = false := by simpa using x5
    by_cases x6 : 1099511627776 < time
    · have e6 : decide (1099511627776 < time) = true := by simpa using x6
      clear hrange
      go_enter Tryz.func69, Tryz.ntmps69
      go_wp2
      go_ret
      exact ⟨ret_bool HR.out, HBA.out⟩
    exact absurd (by omega) hrange

end Go.Proofs.YtkmnbbocahjmaaaGreatDoor
