/- For every input the law rehearsal/rehearsallaw08.SyntaxLists returns true, and each argument reads behind the call as it read before. Conditions: none. -/
import Derived.Test.YtgajbehlggikdaaSwLawLQ
import Derived.WalkKit
import Derived.ProofKit
import Derived.OpenShut
import Derived.ShutString
import Derived.ChangeOld
import Derived.Below
namespace Go.Proofs.Ytgajbehlggikdaa.syntaxLists
open Go.ChangeShapes Go.WideShapes Go.ChangeAt Go.RowKit
open Go.ChangeMaps (open_string shut_string)
set_option linter.unusedVariables false

theorem laidOut : laidOutB Try.prog = true := by kernel_rfl
theorem cells_u8 : Try.prog.cellsOf 5 = 1 := by kernel_rfl
theorem own : ownKnob Try.prog.godebug = none := by kernel_rfl

set_option maxRecDepth 100000 in
theorem lifted (os : Os) (started : os.Started) (H : Type) (enc : TypeId × Value → H) :
    ReturnsInHanded {} Try.checked os 6 .any (Rows.syntaxListsSpec.pre6 enc Try.prog Try.f6 Rows.syntaxListsRow.domain false) (Rows.syntaxListsSpec.post enc Try.prog Try.f6 false true false false) := by
  refine returnsInHanded_of_change (C := Try.checked) own started (by kernel_rfl) Try.func6
    (ChangeSpec.witness6 (enc := enc) (C := Try.checked) false ⟨#[], #[.slice none 0 0], []⟩ 8 (by kernel_rfl) (by kernel_rfl) (by kernel_rfl) (by kernel_rfl)) ?_
  intro W base args ds gs before hval0 hW hcnd _
  have hval : ∀ (j : Nat) t v, Try.f6.params[j]? = some t → args[j]? = some v → Value.okWide Try.prog W .any base t v := hval0
  have hW' := hW
  obtain ⟨p, q, hA0, hV, rfl, hfz, hnd⟩ := hW
  have hA : DataW.TrodAll enc Try.prog W 0 (fun _ => true) true Try.f6.params.toList args.toList ds p := hA0
  rw [Try.params6] at hA hval
  obtain ⟨v0, vs0, d0, ds0, p0, q0, hargs, rfl, rfl, h0, r0⟩ := trodAll_cons hA
  obtain ⟨rfl, rfl, rfl⟩ := trodAll_nil r0
  obtain rfl : args = #[v0] := by cases args; simp_all
  obtain ⟨rfl, rfl⟩ := trodVars_none hV
  obtain ⟨A0, n0, c0, rfl⟩ := okWide_slice Try.underlying44 (hval 0 44 v0 rfl rfl)
  have k0 := h0
  have hx0 : ∃ os : List Nat, n0 = os.length ∧ n0 ≤ 9223372036854775807 ∧ (∀ x ∈ os, x < 256) ∧ (os ≠ [] → ∃ b off, A0 = some ⟨b, off, none⟩ ∧ b < W.heap.size ∧ ∀ i (h : i < os.length), W.cell? ⟨b, off + i, none⟩ = some (.int .u8 (os[i] : Nat))) := by
    obtain ⟨fuel, hf⟩ := h0
    rcases open_ints Try.underlying44 Try.underlying5 cells_u8 hf with ⟨hcs, hx⟩ | ⟨a, len', cap', zs, hcs, _, hl, hm, hz, hx, hcell, hwz⟩
    · simp [Value.cells] at hcs
      obtain ⟨rfl, rfl, rfl⟩ := hcs
      exact ⟨[], rfl, by decide, (fun x h => by cases h), fun h => absurd rfl h⟩
    · simp [Value.cells] at hcs
      obtain ⟨rfl, rfl, rfl⟩ := hcs
      simp only [if_true] at hz
      have hlen : ((zs.take n0).map Int.toNat).length = n0 := by simp; omega
      refine ⟨(zs.take n0).map Int.toNat, hlen.symm, by unfold maxLen at hm; omega, fun x hx => ?_, fun hne => ?_⟩
      · obtain ⟨z, hz1, rfl⟩ := List.mem_map.1 hx
        have hb := bounds_u8 (hwz z (List.mem_of_mem_take hz1))
        omega
      · have h0 : 0 < n0 := by rw [← hlen]; exact List.length_pos_iff.2 hne
        obtain ⟨ab, ao, spot⟩ := a
        have hc0 := hcell 0 (by omega)
        have hspot : spot = none := by simpa [Addr.add] using World.cell?_spot hc0
        subst hspot
        refine ⟨ab, ao, rfl, by have := World.block_lt_of_cell? _ _ hc0; simpa [Addr.add] using this, fun i hi => ?_⟩
        rw [hlen] at hi
        have hci := hcell i (by omega)
        rw [Addr.add_lit] at hci
        have e : zs.getD i 0 = zs[i]'(by omega) := by simp [List.getD, List.getElem?_eq_getElem (show i < zs.length by omega)]
        have hb := bounds_u8 (hwz _ (List.getElem_mem (show i < zs.length by omega)))
        rw [hci, e]
        simp only [List.getElem_map, List.getElem_take]
        congr 2
        omega
  obtain ⟨os, g1, g2, g3, g4⟩ := hx0
  clear hA0 hval0
  simp only [List.append_nil] at hW'
  refine (Sw.lists_law A0 n0 c0 os W g1 g2 g3 g4).mono fun e W' ⟨he, bel⟩ => ?_
  subst he
  have k1 := Below.trod laidOut (by kernel_rfl) (of_decide_eq_true (by kernel_rfl)) k0 bel (fun x hx => by have := hW'.lt x (by simp [hx]); simpa using this)
  exact ⟨_, rfl, _, _, _, _, _, [], hW', trodAll_mk1 (shut_bool Try.underlying4 _), (trodAll_cons_mk k1 trodAll_mk0), rfl, bel.frame _, fun h => by cases h⟩

theorem over : Rows.syntaxListsRow.holds Try.pinned (OpenSpec.ofChange Rows.syntaxListsSpec) :=
  OpenClaim.holds_of_wide 6 Try.f6 rfl rfl rfl rfl rfl rfl rfl ⟨rfl, rfl, rfl, rfl, rfl⟩ rfl rfl rfl rfl rfl (by kernel_rfl) Try.func6 (by kernel_rfl)
    (of_decide_eq_true (by kernel_rfl)) (by unfold Func.isWrapper; first | (rw [if_pos (by decide +kernel)]; kernel_rfl) | (rw [if_neg (by decide +kernel)]; exact ⟨rfl, rfl⟩))
    (fun os started H enc _ => lifted os started H enc)

theorem proved : Rows.SyntaxListsSaid := over

end Go.Proofs.Ytgajbehlggikdaa.syntaxLists
