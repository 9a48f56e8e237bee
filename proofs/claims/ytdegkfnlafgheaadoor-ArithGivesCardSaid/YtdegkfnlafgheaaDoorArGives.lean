/- DERIVED. The walk over gives. -/
import Derived.Test.YtdegkfnlafgheaaDoorArBetw
import Derived.Test.YtdegkfnlafgheaaDoorShelf
namespace Go.Proofs.YtdegkfnlafgheaaDoor.Ar
open Go.RowKit
open PathM WdM ArM
open Go.Proofs.YtdegkfnlafgheaaDoor.Wd
set_option linter.unusedVariables false

theorem suffix_one (l : Bs) (c : UInt8) : Lib.hasSuffix l [c] = (l.getLast? == some c) := by
  rcases List.eq_nil_or_concat l with rfl | ⟨r, x, rfl⟩
  · rfl
  · simp [Lib.hasSuffix, List.isSuffixOf, List.isPrefixOf]
    exact Bool.eq_iff_iff.2 ⟨fun h => by simpa using (eq_of_beq h).symm, fun h => by simpa using (eq_of_beq h).symm⟩
theorem lite_suffix (l : Bs) (w : World) (hl : l.length ≤ 4611686018427387904) :
    Calls Tryd.prog 52 #[.string (nm l), .string ⟨#[61]⟩] w fun e w' => e = .returned (.tuple #[.string (nm (if l.getLast? = some 61 then l.dropLast else l)), .bool (l.getLast? == some 61)]) ∧ w' = w := by
  have hs : (nm l).size ≤ 9223372036854775807 := by rw [nm_size]; omega
  have h := fun W => Tryd.stringslite_HasSuffix (nm l) ⟨#[61]⟩ W hs
  rw [nm_data, suffix_one] at h
  by_cases hq : l.getLast? = some 61
  · have hb : (l.getLast? == some 61) = true := by rw [hq]; rfl
    rw [hb] at h ⊢
    rw [if_pos hq]
    have hn : 1 ≤ l.length := by
      cases l with
      | nil => cases hq
      | cons a l => simp
    have hx : (nm l).extract 0 (l.length - 1) = nm l.dropLast := by rw [ext_to, nm_data, List.dropLast_eq_take]
    have hz : (nm l).size = l.length := nm_size l
    have HS := Lib.hid h
    have HX := Lib.hid hx
    generalize nm l.dropLast = D at *
    generalize nm l = K at *
    obtain ⟨n, hn1⟩ : ∃ n, l.length = n + 1 := ⟨l.length - 1, by omega⟩
    rw [hn1] at hz HX hl
    have hlm : n + 1 ≤ 4611686018427387904 := hl
    have hw : IntKind.i64.wrap ((K.size : Int) - 1) = (n : Int) := by rw [hz, IntWalk.i64_in _ (by omega)]; omega
    have hx2 : K.extract 0 n = D := HX.out
    have hle : (n : Int) ≤ (K.size : Int) := by omega
    clear h hb hq hn hx hn1 hl hs
    go_enter Tryd.func52, Tryd.ntmps52
    go_wp2_with (go_at_call 61; refine (HS.out _).mono ?_; rintro e W ⟨rfl, rfl⟩)
    go_ret2
    exact ⟨by simp [hx2], rfl⟩
  · have hb : (l.getLast? == some 61) = false := by simpa using hq
    rw [hb] at h ⊢
    rw [if_neg hq]
    have HS := Lib.hid h
    generalize nm l = K at *
    clear h hb hq
    go_enter Tryd.func52, Tryd.ntmps52
    go_wp2_with (go_at_call 61; refine (HS.out _).mono ?_; rintro e W ⟨rfl, rfl⟩)
    go_ret2
    exact ⟨rfl, rfl⟩
theorem cut_suffix (l : Bs) (w : World) (hl : l.length ≤ 4611686018427387904) :
    Calls Tryd.prog 44 #[.string (nm l), .string ⟨#[61]⟩] w fun e w' => e = .returned (.tuple #[.string (nm (if l.getLast? = some 61 then l.dropLast else l)), .bool (l.getLast? == some 61)]) ∧ w' = w := by
  have h := Lib.hid (lite_suffix l w hl)
  generalize nm (if l.getLast? = some 61 then l.dropLast else l) = D at *
  generalize nm l = K at *
  generalize (l.getLast? == some 61) = b at *
  go_enter Tryd.func44, Tryd.ntmps44
  go_wp2_with (go_at_call 52; refine h.out.mono ?_; rintro e W ⟨rfl, rfl⟩)
  go_ret2
  exact ⟨rfl, rfl⟩
/-- What gives tells. -/
def givesV (k : Bs) : Value := match givesOf k with
  | some b => .tuple #[.string (nm b), .bool true]
  | none => .tuple #[.string ⟨#[]⟩, .bool false]
set_option maxHeartbeats 1600000 in
theorem gives_any (k : Bs) (w : World) (hl : k.length ≤ 4611686018427387904) :
    Calls Tryd.prog 33 #[.string (nm k)] w fun e w' => e = .returned (givesV k) ∧ w' = w := by
  by_cases h0 : k = [61, 61]
  · have q0 : ((nm k).toList == [61, 61]) = true := by rw [str_is, decide_eq_true h0]
    have hr : givesV k = .tuple #[.string ⟨#[]⟩, .bool false] := by unfold givesV givesOf; rw [if_pos (.inl h0)]
    rw [hr]
    clear hr h0
    generalize nm k = K at *
    go_enter Tryd.func33, Tryd.ntmps33
    go_wp2
    go_ret2
    exact ⟨rfl, rfl⟩
  · have q0 : ((nm k).toList == [61, 61]) = false := by rw [str_is, decide_eq_false h0]
    by_cases h1 : k = [33, 61]
    · have q1 : ((nm k).toList == [33, 61]) = true := by rw [str_is, decide_eq_true h1]
      have hr : givesV k = .tuple #[.string ⟨#[]⟩, .bool false] := by unfold givesV givesOf; rw [if_pos (.inr (.inl h1))]
      rw [hr]
      clear hr h0 h1
      generalize nm k = K at *
      go_enter Tryd.func33, Tryd.ntmps33
      go_wp2
      go_ret2
      exact ⟨rfl, rfl⟩
    · have q1 : ((nm k).toList == [33, 61]) = false := by rw [str_is, decide_eq_false h1]
      by_cases h2 : k = [60, 61]
      · have q2 : ((nm k).toList == [60, 61]) = true := by rw [str_is, decide_eq_true h2]
        have hr : givesV k = .tuple #[.string ⟨#[]⟩, .bool false] := by unfold givesV givesOf; rw [if_pos (.inr (.inr (.inl h2)))]
        rw [hr]
        clear hr h0 h1 h2
        generalize nm k = K at *
        go_enter Tryd.func33, Tryd.ntmps33
        go_wp2
        go_ret2
        exact ⟨rfl, rfl⟩
      · have q2 : ((nm k).toList == [60, 61]) = false := by rw [str_is, decide_eq_false h2]
        by_cases h3 : k = [62, 61]
        · have q3 : ((nm k).toList == [62, 61]) = true := by rw [str_is, decide_eq_true h3]
          have hr : givesV k = .tuple #[.string ⟨#[]⟩, .bool false] := by unfold givesV givesOf; rw [if_pos (.inr (.inr (.inr h3)))]
          rw [hr]
          clear hr h0 h1 h2 h3
          generalize nm k = K at *
          go_enter Tryd.func33, Tryd.ntmps33
          go_wp2
          go_ret2
          exact ⟨rfl, rfl⟩
        · have q3 : ((nm k).toList == [62, 61]) = false := by rw [str_is, decide_eq_false h3]
          have HC := Lib.hid (fun W => cut_suffix k W hl)
          have hr : givesV k = if k.getLast? = some 61 then .tuple #[.string (nm k.dropLast), .bool true] else .tuple #[.string ⟨#[]⟩, .bool false] := by
            unfold givesV givesOf
            rw [if_neg (by rintro (e | e | e | e) <;> contradiction)]
            by_cases h : k.getLast? = some 61
            · rw [if_pos h, if_pos h]
            · rw [if_neg h, if_neg h]
          rw [hr]
          clear hr hl h0 h1 h2 h3
          by_cases h : k.getLast? = some 61
          · rw [if_pos h] at HC ⊢
            rw [h] at HC
            simp only [BEq.rfl] at HC
            clear h
            generalize nm k.dropLast = D at *
            generalize nm k = K at *
            go_enter Tryd.func33, Tryd.ntmps33
            go_wp2_with (go_at_call 44; refine (HC.out _).mono ?_; rintro e W ⟨rfl, rfl⟩)
            go_ret2
            exact ⟨rfl, rfl⟩
          · have hb : (k.getLast? == some 61) = false := by simpa using h
            rw [if_neg h] at HC ⊢
            rw [hb] at HC
            clear h hb
            generalize nm k = K at *
            go_enter Tryd.func33, Tryd.ntmps33
            go_wp2_with (go_at_call 44; refine (HC.out _).mono ?_; rintro e W ⟨rfl, rfl⟩)
            go_ret2
            exact ⟨rfl, rfl⟩

end Go.Proofs.YtdegkfnlafgheaaDoor.Ar
