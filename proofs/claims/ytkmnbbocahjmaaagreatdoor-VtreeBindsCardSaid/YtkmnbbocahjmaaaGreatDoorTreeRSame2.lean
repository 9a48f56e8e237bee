/- DERIVED. Walks over the document's own Nodes, Exact, New. -/
import Derived.Test.YtkmnbbocahjmaaaGreatDoorTreeRSame
import Derived.Lib.QuietBelow
namespace Go.Proofs.YtkmnbbocahjmaaaGreatDoor
open Go.RowKit Go.Sort
open PathM TreeM
set_option linter.unusedVariables false
attribute [local go_sem] cell_rg

set_option maxHeartbeats 4000000 in
theorem rnodes_any (v u : Value) (l m : List Nd) (B : Nat) (w : World) (hN : NodesIn w B v l) (hM : NodesIn w B u m) (hB : B ≤ w.heap.size) :
    Calls Tryz.prog 64 #[v, u] w (BelowB (decide (l = m)) w) := by
  unfold BelowB
  by_cases hl : l.length = m.length
  · obtain ⟨hlen, hc1⟩ := (hN.more hB).cases
    obtain ⟨_, hc2⟩ := (hM.more hB).cases
    obtain ⟨A1, c1, rfl⟩ := nodes_len hN
    obtain ⟨A2, c2, rfl⟩ := nodes_len hM
    rw [← nds_eq hl]
    obtain ⟨r, hr⟩ : ∃ r, allTo (fun i => decide (ndAt l i = ndAt m i)) l.length = r := ⟨_, rfl⟩
    rw [hr]
    have hfail : ∀ k, k < l.length → ¬ ndAt l k = ndAt m k → r = false := fun k hk h => by rw [← hr]; exact allTo_not hk (by simpa using h)
    have hl2 := hl
    rw [← hl] at hc2 ⊢
    have HFA := Lib.hid hfail; have HR := Lib.hid hr; have HC1 := Lib.hid hc1; have HC2 := Lib.hid hc2; have HL2 := Lib.hid hl2
    clear hfail hr hc1 hc2 hl2 hl hN hM
    generalize hn : l.length = n at *
    have HN := Lib.hid hn
    clear hn
    go_enter Tryz.func64, Tryz.ntmps64
    go_wp2
    go_loopw [5] (fun i wr => ∃ k : Nat, k ≤ n ∧ i = .int .i64 k ∧ allTo (fun i => decide (ndAt l i = ndAt m i)) k = true ∧ Below w.heap.size w wr) (fun i _ => n - (intOf i).toNat)
    case atStart => exact ⟨0, by omega, rfl, rfl, Below.refl _ _⟩
    case round =>
      obtain ⟨k, hk, rfl, hto, hbe⟩ := hrel
      have HT := Lib.hid hto; have HBE := Lib.hid hbe
      have hwr : w.heap.size ≤ wr.heap.size := hbe.size
      by_cases hlt : k < n
      · obtain ⟨b, off, cc, hA1, hb1, hcells⟩ : ∃ b off cc, Value.slice A1 n c1 = .slice (some ⟨b, off, none⟩) n cc ∧ b < w.heap.size ∧ ∀ k, k < n → NodeIn w w.heap.size b (off + k * 7) (ndAt l k) := by
          rcases HC1.out with ⟨_, _, _, h0⟩ | ⟨b, off, cc, h1, _, h3, _, h2⟩
          · rw [← HN.out, h0] at hlt; exact absurd hlt (by simp)
          · exact ⟨b, off, cc, h1, h3, h2⟩
        obtain ⟨b', off', cc', hA2, hb2, hcells'⟩ : ∃ b off cc, Value.slice A2 n c2 = .slice (some ⟨b, off, none⟩) n cc ∧ b < w.heap.size ∧ ∀ k, k < n → NodeIn w w.heap.size b (off + k * 7) (ndAt m k) := by
          rcases HC2.out with ⟨_, _, _, h0⟩ | ⟨b, off, cc, h1, _, h3, _, h2⟩
          · have : m.length = n := by rw [← HL2.out]
            rw [h0] at this; simp at this; omega
          · exact ⟨b, off, cc, h1, h3, h2⟩
        cases hA1; cases hA2
        obtain ⟨x0, x1, x2, x3, x4, x5, _, ev, x6, hE⟩ := (hcells k hlt).below hb1 hbe
        obtain ⟨y0, y1, y2, y3, y4, y5, _, ev', y6, hF⟩ := (hcells' k hlt).below hb2 hbe
        have hsn := fun W (hW : Below wr.heap.size wr W) => rsameNode_any ev ev' (ndAt l k) (ndAt m k) wr.heap.size W ((hE.more hwr).below hW) ((hF.more hwr).below hW) hW.size
        obtain ⟨Ae, ce, rfl, _⟩ := ents_len hE
        obtain ⟨Af, cf, rfl, _⟩ := ents_len hF
        have hkk : (k : Int) < (n : Int) := by omega
        have hbw : b < wr.heap.size := by omega
        have hbw2 : b' < wr.heap.size := by omega
        clear hcells hcells' hE hF hbe hto
        by_cases he : ndAt l k = ndAt m k
        · have HO := Lib.hid (allTo_succ HT.out (show decide (ndAt l k = ndAt m k) = true by simpa using he))
          have hbb : decide (ndAt l k = ndAt m k) = true := by simp [he]
          rw [hbb] at hsn
          unfold BelowB at hsn
          unfold ndV at hsn
          have HSN := Lib.hid hsn
          clear he hbb hsn
          generalize ndAt l k = x at *
          generalize ndAt m k = y at *
          go_wp2
          refine wp_region_quiet_below (by kernel_rfl) (by kernel_rfl) ?_
          repeat (first | go_big_quiet_step ((go_at_call 29; exact Calls.regrown_of (HSN.out _ (below_regrown _ _ _)))) | quiet_step ((go_at_call 29; exact Calls.regrown_of (HSN.out _ (below_regrown _ _ _)))))
          refine wpQuiet_nil ?_
          intro _ hw'
          obtain ⟨⟨dq, osq⟩, hw''⟩ := hw'
          subst hw''
          go_wp2
          go_roundw
          case rel => exact ⟨k + 1, by omega, by go_num, HO.out, HBE.out.trans ((below_regrown _ dq osq).mono hwr)⟩
          case measure => simp [intOf]; omega
        · have HO := Lib.hid (HFA.out k hlt he)
          have hbb : decide (ndAt l k = ndAt m k) = false := by simp [he]
          rw [hbb] at hsn
          unfold BelowB at hsn
          unfold ndV at hsn
          have HSN := Lib.hid hsn
          clear he hbb hsn
          generalize ndAt l k = x at *
          generalize ndAt m k = y at *
          go_wp2
          refine wp_region_quiet_below (by kernel_rfl) (by kernel_rfl) ?_
          repeat (first | go_big_quiet_step ((go_at_call 29; exact Calls.regrown_of (HSN.out _ (below_regrown _ _ _)))) | quiet_step ((go_at_call 29; exact Calls.regrown_of (HSN.out _ (below_regrown _ _ _)))))
          refine wpQuiet_nil ?_
          intro _ hw'
          obtain ⟨⟨dq, osq⟩, hw''⟩ := hw'
          subst hw''
          go_wp2
          go_ret
          exact ⟨ret_bool HO.out.symm, HBE.out.trans ((below_regrown _ dq osq).mono hwr)⟩
      · have hkn : k = n := by omega
        have HO : Hid (true = r) := Lib.hid (by rw [← HR.out, ← hkn]; exact HT.out.symm)
        clear hkn
        go_wp2
        go_ret
        exact ⟨ret_bool HO.out, HBE.out⟩
  · have hr : decide (l = m) = false := by simp; intro h; exact hl (by rw [h])
    rw [hr]
    obtain ⟨A1, c1, rfl⟩ := nodes_len hN
    obtain ⟨A2, c2, rfl⟩ := nodes_len hM
    have q1 : ((l.length : Int) != (m.length : Int)) = true := by simp; omega
    clear hr hN hM hl
    generalize l.length = n at *
    generalize m.length = k at *
    go_enter Tryz.func64, Tryz.ntmps64
    go_wp2
    go_ret
    exact ⟨rfl, Below.refl _ _⟩

theorem eq24 (a b x y : Int) (w : World) : (Op.equalIn 10000 24 (.agg #[.int .i64 a, .int .i64 b]) (.agg #[.int .i64 x, .int .i64 y])).run Tryz.prog w = .ok (a == x && b == y) w := by
  have u3 := Tryz.underlying3
  have a3 := Tryz.isAgg3
  have z3 := Tryz.sizeOf3
  have hS : Tryz.prog.underlying 24 = some (.struct (Tryz.prog.fieldsOf 24)) := by kernel_rfl
  have hp : Tryz.prog.stoodInHeld 24 = false := by kernel_rfl
  rw [show (10000 : Nat) = 9999 + 1 from rfl, run_equalIn_agg w 9999 24 _ _ hS hp]
  simp only [Program.fieldsOf, Tryz.underlying24]
  go_simp
  by_cases h1 : a = x <;> by_cases h2 : b = y <;> simp [h1, h2]
theorem room_eql (a b x y : Int) (w : World) : (binOp .eql 24 (.agg #[.int .i64 a, .int .i64 b]) (.agg #[.int .i64 x, .int .i64 y])).run Tryz.prog w = .ok (.bool (a == x && b == y)) w := by
  rw [run_eql_struct, eq24]; rfl

end Go.Proofs.YtkmnbbocahjmaaaGreatDoor
