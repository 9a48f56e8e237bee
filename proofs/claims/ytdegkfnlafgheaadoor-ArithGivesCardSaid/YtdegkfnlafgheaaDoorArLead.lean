/- DERIVED. The walk over a part with the signs ahead of it. -/
import Derived.Test.YtdegkfnlafgheaaDoorArAll
import Derived.Defers
import Derived.Recover
namespace Go.Proofs.YtdegkfnlafgheaaDoor.Ar
open Go.RowKit
open PathM WdM ArM
open Go.Proofs.YtdegkfnlafgheaaDoor.Wd
set_option linter.unusedVariables false

set_option maxHeartbeats 1600000 in
theorem lead1_deferred (rb cb dp : Nat) (u : FrameMode) (w : World) (hc : w.cell? ⟨cb, 0, none⟩ = some (.pointer (some ⟨rb, 0, none⟩))) (hr : w.cell? ⟨rb, 1, none⟩ = some (.int .i64 ((dp : Nat) + 1 : Int))) (hf : w.frozen? ⟨rb, 1, none⟩ = false) (hlc : cb < w.heap.size) (hlr : rb < w.heap.size) (hd : dp ≤ 64) :
    CallsD Tryd.prog 60 #[.pointer (some ⟨cb, 0, none⟩)] u w fun e u' w' => u' = u ∧ (e = .returned (.tuple #[]) ∧ w' = w.setCell ⟨rb, 1, none⟩ (.int .i64 dp)) := by
  go_enter_d Tryd.func60, Tryd.ntmps60
  go_wp2
  go_end0
  exact ⟨rfl, rfl⟩

set_option maxRecDepth 100000 in
set_option maxHeartbeats 3200000 in
theorem lead_plain (rb dp : Nat) (t : Tok) (l : List Tok) (w : World) (h : RdA w rb (t :: l) dp) (hl : leadsOf (sgOf t) = false) (hp : sgOf t ≠ [40]) :
    Calls Tryd.prog 49 #[.pointer (some ⟨rb, 0, none⟩)] w (RdPost rb dp (plainL (t :: l)) w) := by
  have hrb := h.lt
  have ha : Below w.heap.size w (w.alloc (.cells #[.pointer (some ⟨rb, 0, none⟩)] 75)) := (Below.refl _ _).alloc (Nat.le_refl _) _
  have h1 := h.told ha
  have HN := Lib.hid (next_some t l rb dp _ h1)
  unfold tokV at HN
  have HP : Hid (∀ W, Below (w.alloc (.cells #[.pointer (some ⟨rb, 0, none⟩)] 75)).heap.size (w.alloc (.cells #[.pointer (some ⟨rb, 0, none⟩)] 75)) W → ∀ u, Calls Tryd.prog 59 #[.pointer (some ⟨rb, 0, none⟩)] (W.alloc u) fun e w' => RdPost rb dp (plainL (t :: l)) w e w') := Lib.hid (fun W hW u => (plain_any _ rb dp (W.alloc u) (h1.told (hW.alloc hW.size _))).mono (fun e w' hq => hq.then ((kept_of_below ha).trans (kept_of_below (hW.alloc hW.size _))) rfl))
  have n0 := heap_alloc_new w (.cells #[.pointer (some ⟨rb, 0, none⟩)] 75)
  have N0 := Lib.hid n0
  clear n0
  have HL := Lib.hid (leads_any (sgOf t))
  rw [hl] at HL
  have q := str_is (sgOf t) [40]
  rw [decide_eq_false hp] at q
  generalize nm (sgOf t) = S at *
  generalize nm t.text = T at *
  generalize nOf t = k at *
  clear h h1 ha hl hp
  have fk0 := fieldK0
  have hmf : ∀ (fn : Fn) (first cap : Array Value) (w : World), (Instr.makeFunc fn first cap).run Tryd.prog w = .ok (.func fn first cap) w := fun _ _ _ _ => rfl
  go_enter_defers Tryd.func49, Tryd.ntmps49
  go_wp2_with (first | (go_at_call 50; refine HN.out.mono ?_; rintro e W1 ⟨rfl, hb⟩; have HB := Lib.hid hb; have hz := hb.size; rw [World.size_alloc] at hz; have cz := cell_blk ((hb.block w.heap.size (by rw [World.size_alloc]; omega)).trans N0.out) 0; replace cz := cz.trans (show _ = some (.pointer (some ⟨rb, 0, none⟩)) from rfl); replace hz := Nat.lt_of_lt_of_le (Nat.lt_succ_self _) hz; clear hb) | (go_at_call 58; refine (HL.out _).mono ?_; rintro e W2 ⟨rfl, rfl⟩) | (go_at_call 59; refine (HP.out _ HB.out _).mono ?_; rintro e W3 hq; obtain ⟨v, x, rfl, _⟩ := hq.form; have HQ := Lib.hid hq; clear hq))
  refine ⟨_, results_tmp2 rfl _ _ _, ?_⟩
  exact HQ.out
set_option maxRecDepth 100000 in
set_option maxHeartbeats 3200000 in
theorem lead_deep (rb : Nat) (t : Tok) (l : List Tok) (w : World) (h : RdA w rb (t :: l) 64) (b1 b2 : Bool) (hl : leadsOf (sgOf t) = b1) (hp : decide (sgOf t = [40]) = b2) (hbb : b1 = true ∨ b2 = true) :
    Calls Tryd.prog 49 #[.pointer (some ⟨rb, 0, none⟩)] w (RdPost rb 64 (.error 63) w) := by
  have hrb := h.lt
  have ha : Below w.heap.size w (w.alloc (.cells #[.pointer (some ⟨rb, 0, none⟩)] 75)) := (Below.refl _ _).alloc (Nat.le_refl _) _
  have h1 := h.told ha
  have HN := Lib.hid (next_some t l rb 64 _ h1)
  unfold tokV at HN
  have HF : Hid (∀ W u, Below (w.alloc (.cells #[.pointer (some ⟨rb, 0, none⟩)] 75)).heap.size (w.alloc (.cells #[.pointer (some ⟨rb, 0, none⟩)] 75)) W → RdPost rb 64 (.error 63) w (.returned (.tuple #[.nilIface, .int .i64 63])) (W.alloc u)) := Lib.hid (fun W u hW => RdPost.no rfl (by decide) (.inl rfl) ((kept_of_below ha).trans (kept_of_below (hW.alloc hW.size _))) (h1.told (hW.alloc hW.size _)))
  obtain ⟨v0, hb0⟩ := h1
  have B0 := Lib.hid hb0.1
  clear hb0
  have n0 := heap_alloc_new w (.cells #[.pointer (some ⟨rb, 0, none⟩)] 75)
  have N0 := Lib.hid n0
  clear n0
  have HL := Lib.hid (leads_any (sgOf t))
  rw [hl] at HL
  have q := str_is (sgOf t) [40]
  rw [hp] at q
  generalize nm (sgOf t) = S at *
  generalize nm t.text = T at *
  generalize nOf t = k at *
  clear h ha hl hp
  have fk0 := fieldK0
  have hmf : ∀ (fn : Fn) (first cap : Array Value) (w : World), (Instr.makeFunc fn first cap).run Tryd.prog w = .ok (.func fn first cap) w := fun _ _ _ _ => rfl
  rcases hbb with rfl | rfl
  all_goals try cases b1
  all_goals try cases b2
  all_goals go_enter_defers Tryd.func49, Tryd.ntmps49
  all_goals go_wp2_with (first | (go_at_call 50; refine HN.out.mono ?_; rintro e W1 ⟨rfl, hb⟩; have HB := Lib.hid hb; have d1 := cell_blk ((hb.block rb (by rw [World.size_alloc]; omega)).trans B0.out) 1; replace d1 := d1.trans (show _ = some (.int .i64 ((64 : Nat) : Int)) from rfl); have hz := hb.size; rw [World.size_alloc] at hz; have cz := cell_blk ((hb.block w.heap.size (by rw [World.size_alloc]; omega)).trans N0.out) 0; replace cz := cz.trans (show _ = some (.pointer (some ⟨rb, 0, none⟩)) from rfl); replace hz := Nat.lt_of_lt_of_le (Nat.lt_succ_self _) hz; have hz2 := Nat.lt_trans hrb hz; clear hb) | (go_at_call 58; refine (HL.out _).mono ?_; rintro e W2 ⟨rfl, rfl⟩))
  all_goals refine ⟨_, results_tmp2 rfl _ _ _, ?_⟩
  all_goals exact HF.out _ _ HB.out
set_option maxRecDepth 100000 in
set_option maxHeartbeats 3200000 in
theorem lead_none (rb dp : Nat) (w : World) (h : RdA w rb [] dp) :
    Calls Tryd.prog 49 #[.pointer (some ⟨rb, 0, none⟩)] w (RdPost rb dp (plainL []) w) := by
  have hrb := h.lt
  have ha : Below w.heap.size w (w.alloc (.cells #[.pointer (some ⟨rb, 0, none⟩)] 75)) := (Below.refl _ _).alloc (Nat.le_refl _) _
  have h1 := h.told ha
  have HN := Lib.hid (next_none rb dp _ h1)
  unfold noTok at HN
  have HP : Hid (∀ W, Below (w.alloc (.cells #[.pointer (some ⟨rb, 0, none⟩)] 75)).heap.size (w.alloc (.cells #[.pointer (some ⟨rb, 0, none⟩)] 75)) W → ∀ u, Calls Tryd.prog 59 #[.pointer (some ⟨rb, 0, none⟩)] (W.alloc u) fun e w' => RdPost rb dp (plainL []) w e w') := Lib.hid (fun W hW u => (plain_any _ rb dp (W.alloc u) (h1.told (hW.alloc hW.size _))).mono (fun e w' hq => hq.then ((kept_of_below ha).trans (kept_of_below (hW.alloc hW.size _))) rfl))
  have n0 := heap_alloc_new w (.cells #[.pointer (some ⟨rb, 0, none⟩)] 75)
  have N0 := Lib.hid n0
  clear n0
  have HL := Lib.hid (leads_any [])
  rw [show leadsOf [] = false from rfl] at HL
  have q := str_is [] [40]
  rw [decide_eq_false (by decide)] at q
  generalize nm [] = S at *
  clear h h1 ha
  have fk0 := fieldK0
  have hmf : ∀ (fn : Fn) (first cap : Array Value) (w : World), (Instr.makeFunc fn first cap).run Tryd.prog w = .ok (.func fn first cap) w := fun _ _ _ _ => rfl
  go_enter_defers Tryd.func49, Tryd.ntmps49
  go_wp2_with (first | (go_at_call 50; refine HN.out.mono ?_; rintro e W1 ⟨rfl, hb⟩; have HB := Lib.hid hb; have hz := hb.size; rw [World.size_alloc] at hz; have cz := cell_blk ((hb.block w.heap.size (by rw [World.size_alloc]; omega)).trans N0.out) 0; replace cz := cz.trans (show _ = some (.pointer (some ⟨rb, 0, none⟩)) from rfl); replace hz := Nat.lt_of_lt_of_le (Nat.lt_succ_self _) hz; clear hb) | (go_at_call 58; refine (HL.out _).mono ?_; rintro e W2 ⟨rfl, rfl⟩) | (go_at_call 59; refine (HP.out _ HB.out _).mono ?_; rintro e W3 hq; obtain ⟨v, x, rfl, _⟩ := hq.form; have HQ := Lib.hid hq; clear hq))
  refine ⟨_, results_tmp2 rfl _ _ _, ?_⟩
  exact HQ.out

end Go.Proofs.YtdegkfnlafgheaaDoor.Ar
