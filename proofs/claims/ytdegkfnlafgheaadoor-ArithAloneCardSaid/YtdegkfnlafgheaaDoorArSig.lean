/- DERIVED. What a row lists of the array of signs is what the walks ask of it. -/
import Derived.Test.YtdegkfnlafgheaaDoorArFirst
import Derived.Test.YtdegkfnlafgheaaDoorRows
import Derived.MakeChecks
import Derived.FnData
namespace Go.Proofs.YtdegkfnlafgheaaDoor.Ar
open Go.RowKit
open PathM WdM ArM
open Go.Proofs.YtdegkfnlafgheaaDoor.Wd
set_option linter.unusedVariables false

theorem mapM_all {α β : Type} (f : α → Option β) : ∀ (l : List α) (xs : List β), l.mapM f = some xs → xs.length = l.length ∧ ∀ i (h : i < l.length) (h2 : i < xs.length), f l[i] = some xs[i]
  | [], xs, h => by
    simp only [List.mapM_nil, Option.pure_def, Option.some.injEq] at h
    subst h
    exact ⟨rfl, fun i h => absurd h (by simp)⟩
  | a :: l, xs, h => by
    rw [List.mapM_cons] at h
    simp only [Option.bind_eq_bind, Option.bind_eq_some_iff, Option.pure_def, Option.some.injEq] at h
    obtain ⟨y, hy, ys, hys, rfl⟩ := h
    obtain ⟨h1, h2⟩ := mapM_all f l ys hys
    refine ⟨by simp [h1], ?_⟩
    intro i hi hi2
    cases i with
    | zero => exact hy
    | succ i => exact h2 i (by simpa using hi) (by simpa using hi2)
theorem trod_string {H : Type} {enc : TypeId × Value → H} {P : Program} {w : World} {base : Nat} {sp : Nat → Bool} {held : Bool} {fuel : Nat} {t : TypeId} {c : Value} {y : DataW H × List MemPlace}
    (ht : P.underlying t = some .string) (h : DataW.trod enc P w base sp held fuel t [c] = some y) : ∃ s : ByteArray, c = .string s ∧ y = (.lit (.string s.data.toList), []) := by
  cases fuel with
  | zero => simp [DataW.trod] at h
  | succ fuel =>
    cases c <;> simp [DataW.trod, ht] at h
    rename_i s
    obtain ⟨_, rfl⟩ := h
    exact ⟨s, rfl, rfl⟩
theorem trod_strings {H : Type} {enc : TypeId × Value → H} {P : Program} {w : World} {base : Nat} {sp : Nat → Bool} {held : Bool} {fuel : Nat} {t e : TypeId} {n : Nat} {cs : List Value} {ds : List (DataW H)} {p : List MemPlace}
    (hu : P.underlying t = some (.array n e)) (he : P.underlying e = some .string) (hce : P.cellsOf e = 1) (hct : P.cellsOf t = n) (h : DataW.trod enc P w base sp held fuel t cs = some (.agg ds, p)) :
    cs.length = n ∧ ∀ i, i < n → ∃ s : ByteArray, cs[i]? = some (.string s) ∧ ds[i]? = some (.lit (.string s.data.toList)) := by
  cases fuel with
  | zero => simp [DataW.trod] at h
  | succ fuel =>
    simp only [DataW.trod, hu, hce, hct] at h
    split at h
    · rename_i hl
      simp only [Option.map_eq_some_iff, Prod.mk.injEq, DataW.agg.injEq] at h
      obtain ⟨xs, hx, hd, _⟩ := h
      obtain ⟨h1, h2⟩ := mapM_all _ _ _ hx
      rw [List.length_range] at h1
      refine ⟨hl, fun i hi => ?_⟩
      have h3 := h2 i (by rw [List.length_range]; exact hi) (by omega)
      rw [List.getElem_range] at h3
      have hil : i < cs.length := by omega
      have e1 : (cs.drop (i * 1)).take 1 = [cs[i]] := by
        rw [Nat.mul_one, List.drop_eq_getElem_cons hil]; rfl
      rw [e1] at h3
      obtain ⟨s, hs1, hs2⟩ := trod_string he h3
      refine ⟨s, by rw [List.getElem?_eq_getElem hil, hs1], ?_⟩
      rw [← hd, List.getElem?_map, List.getElem?_eq_getElem (by omega), hs2]
      rfl
    · cases h
def sigD : List (DataW Unit) := match (Rows.laid_rehearsal_arith_signs : DataW Unit) with | .agg l => l | _ => []
theorem sigD_at : ∀ i, i < 35 → sigD[i]? = some (.lit (.string (signsA.getD i [])))
  | 0, _ => rfl
  | 1, _ => rfl
  | 2, _ => rfl
  | 3, _ => rfl
  | 4, _ => rfl
  | 5, _ => rfl
  | 6, _ => rfl
  | 7, _ => rfl
  | 8, _ => rfl
  | 9, _ => rfl
  | 10, _ => rfl
  | 11, _ => rfl
  | 12, _ => rfl
  | 13, _ => rfl
  | 14, _ => rfl
  | 15, _ => rfl
  | 16, _ => rfl
  | 17, _ => rfl
  | 18, _ => rfl
  | 19, _ => rfl
  | 20, _ => rfl
  | 21, _ => rfl
  | 22, _ => rfl
  | 23, _ => rfl
  | 24, _ => rfl
  | 25, _ => rfl
  | 26, _ => rfl
  | 27, _ => rfl
  | 28, _ => rfl
  | 29, _ => rfl
  | 30, _ => rfl
  | 31, _ => rfl
  | 32, _ => rfl
  | 33, _ => rfl
  | 34, _ => rfl
  | n + 35, h => absurd h (by omega)
theorem sigC_at : ∀ i, i < 35 → sigC.toList[i]? = some (.string (nm (signsA.getD i [])))
  | 0, _ => rfl
  | 1, _ => rfl
  | 2, _ => rfl
  | 3, _ => rfl
  | 4, _ => rfl
  | 5, _ => rfl
  | 6, _ => rfl
  | 7, _ => rfl
  | 8, _ => rfl
  | 9, _ => rfl
  | 10, _ => rfl
  | 11, _ => rfl
  | 12, _ => rfl
  | 13, _ => rfl
  | 14, _ => rfl
  | 15, _ => rfl
  | 16, _ => rfl
  | 17, _ => rfl
  | 18, _ => rfl
  | 19, _ => rfl
  | 20, _ => rfl
  | 21, _ => rfl
  | 22, _ => rfl
  | 23, _ => rfl
  | 24, _ => rfl
  | 25, _ => rfl
  | 26, _ => rfl
  | 27, _ => rfl
  | 28, _ => rfl
  | 29, _ => rfl
  | 30, _ => rfl
  | 31, _ => rfl
  | 32, _ => rfl
  | 33, _ => rfl
  | 34, _ => rfl
  | n + 35, h => absurd h (by omega)
theorem sig_one {W : World} {ps : List MemPlace} {r : List (String × DataW Unit)} (h : DataW.LaidVars Tryd.prog W (("rehearsal/arith.signs", Rows.laid_rehearsal_arith_signs) :: r) ps) : SigIn W := by
  obtain ⟨g, t, cs, fuel, p, q, hg, ht, hvar, hd, _, _⟩ := h
  obtain rfl := Option.some.inj ((show Tryd.prog.globalNamed "rehearsal/arith.signs" = some 0 by kernel_rfl).symm.trans hg)
  obtain rfl := Option.some.inj ((show (Tryd.prog.globals[0]?).map (·.type) = some 72 by kernel_rfl).symm.trans ht)
  have hd2 : DataW.trod (fun _ => ()) Tryd.prog W 0 (fun _ => true) false fuel 72 cs.toList = some (.agg sigD, p) := hd
  obtain ⟨h1, h2⟩ := trod_strings Tryd.underlying72 Tryd.underlying57 (by kernel_rfl) (by kernel_rfl) hd2
  have hcs : cs = sigC := by
    apply Array.toList_inj.1
    apply List.ext_getElem?
    intro i
    by_cases hi : i < 35
    · obtain ⟨s, hs1, hs2⟩ := h2 i hi
      rw [sigD_at i hi] at hs2
      simp only [Option.some.injEq, DataW.lit.injEq, Lit.string.injEq] at hs2
      rw [hs1, sigC_at i hi]
      have : s = nm (signsA.getD i []) := by rw [hs2]; exact (nm_of s).symm
      rw [this]
    · rw [List.getElem?_eq_none (by omega), List.getElem?_eq_none (by show sigC.toList.length ≤ i; show 35 ≤ i; omega)]
  subst hcs
  simp only [World.var?, hg, Option.bind_some] at hvar
  split at hvar
  · rename_i cs t' fr hh
    cases hvar
    exact ⟨_, _, hh⟩
  · cases hvar
theorem laid_tail {P : Program} {W : World} {ps : List MemPlace} {x : String × DataW Unit} {r : List (String × DataW Unit)} (h : DataW.LaidVars P W (x :: r) ps) : ∃ q, DataW.LaidVars P W r q := by
  obtain ⟨g, t, cs, fuel, p, q, _, _, _, _, hq, _⟩ := h
  exact ⟨q, hq⟩
theorem sig_laid {W : World} {x : String × DataW Unit} {r : List (String × DataW Unit)} (hn : ((x :: ("rehearsal/arith.signs", (Rows.laid_rehearsal_arith_signs : DataW Unit)) :: r).all fun x => x.2.handleName?.isNone) = true) (h : laidMetH Tryd.prog (x :: ("rehearsal/arith.signs", Rows.laid_rehearsal_arith_signs) :: r) W) : SigIn W := by
  rw [MakeChecks.laidMetH_plain _ _ _ hn] at h
  obtain ⟨ps, hl, _⟩ := h
  obtain ⟨q, hq⟩ := laid_tail hl
  exact sig_one hq
end Go.Proofs.YtdegkfnlafgheaaDoor.Ar
