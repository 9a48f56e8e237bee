/- DERIVED. The law of no table. -/
import Derived.Test.YtdegkfnlafgheaaVrAwk
import Derived.Test.YtdegkfnlafgheaaVrOpen
namespace Go.Proofs.Ytdegkfnlafgheaa.Vr
open Go.RowKit
open PathM WdM
open Go.Proofs.Ytdegkfnlafgheaa.Wd
set_option linter.unusedVariables false
set_option maxRecDepth 100000 in
set_option maxHeartbeats 1600000 in
theorem nobody_law (a : ActB) (av : Value) (w : World) (h : ActOk w a av) :
    Calls Try.prog 7 #[.agg (actV a av).toArray] w fun e w' => e = .returned (.bool true) ∧ Below w.heap.size w w' := by
  obtain ⟨A, c, hv, _⟩ := h.1.1.form
  subst hv
  have HA := Lib.hid (fun w => awake_any w)
  obtain ⟨k, n, v, ps, m⟩ := a
  clear h
  show Calls _ _ #[.agg #[.int .i64 k, .string (nm n), .string (nm v), .slice A ps.length c, .int .i64 m]] _ _
  generalize nm n = N at *
  generalize nm v = V at *
  generalize ps.length = l at *
  go_enter Try.func7, Try.ntmps7
  go_wp2_with (first
    | (go_at_call 15; refine (get_nil _ _).mono ?_; rintro e W ⟨rfl, rfl⟩)
    | (go_at_call 17; refine (set_nil _ _ _).mono ?_; rintro e W ⟨rfl, rfl⟩)
    | (go_at_call 19; refine (unset_nil _ _).mono ?_; rintro e W ⟨rfl, rfl⟩)
    | (go_at_call 25; refine (setArgs_nil _ _).mono ?_; rintro e W ⟨rfl, rfl⟩)
    | (go_at_call 26; refine (shift_nil _ _).mono ?_; rintro e W ⟨rfl, rfl⟩)
    | (go_at_call 21; refine (copy_nil _).mono ?_; rintro e W ⟨rfl, rfl⟩)
    | (go_at_call 22; refine (vars_nil _).mono ?_; rintro e W ⟨rfl, rfl⟩)
    | (go_at_call 23; refine (args_nil _).mono ?_; rintro e W ⟨rfl, rfl⟩)
    | (go_at_call 8; refine (HA.out _).mono ?_; rintro e W ⟨rfl, hb⟩; have HB := Lib.hid hb; clear hb))
  go_ret
  refine ⟨rfl, ?_⟩
  have hb : Below w.heap.size w (w.alloc (.cells #[.int .i64 k, .string N, .string V, .slice A l c, .int .i64 m] 30)) := (Below.refl _ _).alloc (Nat.le_refl _) _
  exact hb.trans (HB.out.mono hb.size)
end Go.Proofs.Ytdegkfnlafgheaa.Vr
