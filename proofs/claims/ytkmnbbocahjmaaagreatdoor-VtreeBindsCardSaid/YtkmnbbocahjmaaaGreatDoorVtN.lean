/- DERIVED. Stage 5, several texts in one: VtThru VtNo VtThru2 VtSplit VtThru3 VtThru4 VtNo2. -/
import Derived.Test.YtkmnbbocahjmaaaGreatDoorVtW
import Derived.Lib.SplitLaws
import Derived.Lib.CountLaws
section
namespace Go.Proofs.YtkmnbbocahjmaaaGreatDoor
open Go.RowKit Go.Sort Go.Lib
open PathM TreeM VtM
set_option linter.unusedVariables false
attribute [local go_sem] cell_rg
set_option maxRecDepth 100000 in
theorem clock_any (fb db mb : Nat) (f : Fs) (w : World) (h : Live w fb db mb f) :
    Calls Tryz.prog 15 #[.pointer (some ⟨fb, 0, none⟩)] w fun e w' => e = .returned (.int .i64 f.ck) ∧ w = w' := by
  have k1 := cell_blk h.files 1
  simp at k1
  have HN := Lib.hid (fnone_any fb db mb f w h)
  generalize f.ck = ck at *
  clear h
  go_enter Tryz.func15, Tryz.ntmps15
  go_wp2_with (go_at_call 42; refine HN.out.mono ?_; rintro e w1 ⟨rfl, rfl⟩)
  go_ret
  exact ⟨rfl, rfl⟩
set_option maxRecDepth 100000 in
theorem fnone_nil (w : World) :
    Calls Tryz.prog 42 #[.pointer none] w fun e w' => e = .returned (.bool true) ∧ w = w' := by
  go_enter Tryz.func42, Tryz.ntmps42
  go_wp2
  go_ret
  exact ⟨rfl, rfl⟩
set_option maxRecDepth 100000 in
theorem fnone_zero (fb : Nat) (w : World) (k0 : w.cell? ⟨fb, 0, none⟩ = some .nilIface) :
    Calls Tryz.prog 42 #[.pointer (some ⟨fb, 0, none⟩)] w fun e w' => e = .returned (.bool true) ∧ w = w' := by
  go_enter Tryz.func42, Tryz.ntmps42
  go_wp2
  go_ret
  exact ⟨rfl, rfl⟩
end Go.Proofs.YtkmnbbocahjmaaaGreatDoor
end

section
namespace Go.Proofs.YtkmnbbocahjmaaaGreatDoor
open Go.RowKit Go.Sort Go.Lib
open PathM TreeM VtM
set_option linter.unusedVariables false
attribute [local go_sem] cell_rg
/-- Files that are nobody's. -/
def Nobody (w : World) (p : Value) : Prop := p = .pointer none ∨ ∃ fb, fb < w.heap.size ∧ p = .pointer (some ⟨fb, 0, none⟩) ∧ w.cell? ⟨fb, 0, none⟩ = some .nilIface
theorem Nobody.below {w W : World} {p : Value} (h : Nobody w p) (hb : Below w.heap.size w W) : Nobody W p := by
  rcases h with h | ⟨fb, hl, h, hk⟩
  · exact .inl h
  · exact .inr ⟨fb, Nat.lt_of_lt_of_le hl hb.size, h, (hb.cell (p := ⟨fb, 0, none⟩) hl).trans hk⟩
theorem fnone_no {w : World} {p : Value} (h : Nobody w p) : Calls Tryz.prog 42 #[p] w fun e w' => e = .returned (.bool true) ∧ w = w' := by
  rcases h with rfl | ⟨fb, _, rfl, hk⟩
  · exact fnone_nil w
  · exact fnone_zero fb w hk
set_option maxRecDepth 100000 in
set_option maxHeartbeats 1000000 in
theorem clock_no  (w : World) (p : Value) (h : Nobody w p) :
    Calls Tryz.prog 15 #[p] w fun e w' => e = .returned (.int .i64 0) ∧ Below w.heap.size w w' := by
  have H0 := Lib.hid (fun W (hW : Below w.heap.size w W) => fnone_no (h.below hW))
  clear h
  go_enter Tryz.func15, Tryz.ntmps15
  go_wp2_with (first | (go_at_call 42; (first | refine (H0.out _ (Below.refl _ _)).mono ?_ | refine (H0.out _ ((Below.refl _ _).alloc (Nat.le_refl _) _)).mono ?_ | refine (H0.out _ (((Below.refl _ _).alloc (Nat.le_refl _) _).alloc (by simp) _)).mono ?_); rintro e w1 ⟨rfl, rfl⟩))
  go_ret
  first | exact ⟨rfl, Below.refl _ _⟩ | exact ⟨rfl, (Below.refl _ _).alloc (Nat.le_refl _) _⟩
set_option maxRecDepth 100000 in
set_option maxHeartbeats 1000000 in
theorem there_no (s : ByteArray) (fw : Bool) (w : World) (p : Value) (h : Nobody w p) :
    Calls Tryz.prog 40 #[p, .string s, .bool fw] w fun e w' => e = .returned (.tuple #[.agg #[.slice none 0 0, .string { data := #[] }, .int .i64 0, .bool false], .int .i64 3]) ∧ Below w.heap.size w w' := by
  have H0 := Lib.hid (fun W (hW : Below w.heap.size w W) => fnone_no (h.below hW))
  clear h
  go_enter Tryz.func40, Tryz.ntmps40
  go_wp2_with (first | (go_at_call 42; (first | refine (H0.out _ (Below.refl _ _)).mono ?_ | refine (H0.out _ ((Below.refl _ _).alloc (Nat.le_refl _) _)).mono ?_ | refine (H0.out _ (((Below.refl _ _).alloc (Nat.le_refl _) _).alloc (by simp) _)).mono ?_); rintro e w1 ⟨rfl, rfl⟩))
  refine bodyPost_ret (results_cell2 rfl _ _ _ 92 #[.slice none 0 0, .string { data := #[] }, .int .i64 0, .bool false] (0, 0) _ rfl (heap_alloc_new w _) Tryz.underlying92 rfl (by kernel_rfl)) rfl ?_
  first | exact ⟨rfl, Below.refl _ _⟩ | exact ⟨rfl, (Below.refl _ _).alloc (Nat.le_refl _) _⟩
set_option maxRecDepth 100000 in
set_option maxHeartbeats 1000000 in
theorem namedThere_no (s : ByteArray) (w : World) (p : Value) (h : Nobody w p) :
    Calls Tryz.prog 49 #[p, .string s] w fun e w' => e = .returned (.tuple #[.agg #[.slice none 0 0, .string { data := #[] }, .int .i64 0, .bool false], .int .i64 3]) ∧ Below w.heap.size w w' := by
  have H0 := Lib.hid (fun W (hW : Below w.heap.size w W) => fnone_no (h.below hW))
  clear h
  go_enter Tryz.func49, Tryz.ntmps49
  go_wp2_with (first | (go_at_call 42; (first | refine (H0.out _ (Below.refl _ _)).mono ?_ | refine (H0.out _ ((Below.refl _ _).alloc (Nat.le_refl _) _)).mono ?_ | refine (H0.out _ (((Below.refl _ _).alloc (Nat.le_refl _) _).alloc (by simp) _)).mono ?_); rintro e w1 ⟨rfl, rfl⟩))
  refine bodyPost_ret (results_cell2 rfl _ _ _ 92 #[.slice none 0 0, .string { data := #[] }, .int .i64 0, .bool false] (0, 0) _ rfl (heap_alloc_new w _) Tryz.underlying92 rfl (by kernel_rfl)) rfl ?_
  first | exact ⟨rfl, Below.refl _ _⟩ | exact ⟨rfl, (Below.refl _ _).alloc (Nat.le_refl _) _⟩
set_option maxRecDepth 100000 in
set_option maxHeartbeats 1000000 in
theorem mkdir_no (s : ByteArray) (m : Int) (w : World) (p : Value) (h : Nobody w p) :
    Calls Tryz.prog 19 #[p, .string s, .int .i64 m] w fun e w' => e = .returned (.int .i64 3) ∧ Below w.heap.size w w' := by
  have H0 := Lib.hid (fun W (hW : Below w.heap.size w W) => fnone_no (h.below hW))
  clear h
  go_enter Tryz.func19, Tryz.ntmps19
  go_wp2_with (first | (go_at_call 42; (first | refine (H0.out _ (Below.refl _ _)).mono ?_ | refine (H0.out _ ((Below.refl _ _).alloc (Nat.le_refl _) _)).mono ?_ | refine (H0.out _ (((Below.refl _ _).alloc (Nat.le_refl _) _).alloc (by simp) _)).mono ?_); rintro e w1 ⟨rfl, rfl⟩))
  go_ret
  first | exact ⟨rfl, Below.refl _ _⟩ | exact ⟨rfl, (Below.refl _ _).alloc (Nat.le_refl _) _⟩
set_option maxRecDepth 100000 in
set_option maxHeartbeats 1000000 in
theorem symlink_no (t s : ByteArray) (w : World) (p : Value) (h : Nobody w p) :
    Calls Tryz.prog 17 #[p, .string t, .string s] w fun e w' => e = .returned (.int .i64 3) ∧ Below w.heap.size w w' := by
  have H0 := Lib.hid (fun W (hW : Below w.heap.size w W) => fnone_no (h.below hW))
  clear h
  go_enter Tryz.func17, Tryz.ntmps17
  go_wp2_with (first | (go_at_call 42; (first | refine (H0.out _ (Below.refl _ _)).mono ?_ | refine (H0.out _ ((Below.refl _ _).alloc (Nat.le_refl _) _)).mono ?_ | refine (H0.out _ (((Below.refl _ _).alloc (Nat.le_refl _) _).alloc (by simp) _)).mono ?_); rintro e w1 ⟨rfl, rfl⟩))
  go_ret
  first | exact ⟨rfl, Below.refl _ _⟩ | exact ⟨rfl, (Below.refl _ _).alloc (Nat.le_refl _) _⟩
set_option maxRecDepth 100000 in
set_option maxHeartbeats 1000000 in
theorem write_no (s t : ByteArray) (m : Int) (w : World) (p : Value) (h : Nobody w p) :
    Calls Tryz.prog 13 #[p, .string s, .string t, .int .i64 m] w fun e w' => e = .returned (.int .i64 3) ∧ Below w.heap.size w w' := by
  have H0 := Lib.hid (fun W (hW : Below w.heap.size w W) => fnone_no (h.below hW))
  clear h
  go_enter Tryz.func13, Tryz.ntmps13
  go_wp2_with (first | (go_at_call 42; (first | refine (H0.out _ (Below.refl _ _)).mono ?_ | refine (H0.out _ ((Below.refl _ _).alloc (Nat.le_refl _) _)).mono ?_ | refine (H0.out _ (((Below.refl _ _).alloc (Nat.le_refl _) _).alloc (by simp) _)).mono ?_); rintro e w1 ⟨rfl, rfl⟩))
  go_ret
  first | exact ⟨rfl, Below.refl _ _⟩ | exact ⟨rfl, (Below.refl _ _).alloc (Nat.le_refl _) _⟩
set_option maxRecDepth 100000 in
set_option maxHeartbeats 1000000 in
theorem chmod_no (s : ByteArray) (m : Int) (w : World) (p : Value) (h : Nobody w p) :
    Calls Tryz.prog 73 #[p, .string s, .int .i64 m] w fun e w' => e = .returned (.int .i64 3) ∧ Below w.heap.size w w' := by
  have H0 := Lib.hid (fun W (hW : Below w.heap.size w W) => fnone_no (h.below hW))
  clear h
  go_enter Tryz.func73, Tryz.ntmps73
  go_wp2_with (first | (go_at_call 42; (first | refine (H0.out _ (Below.refl _ _)).mono ?_ | refine (H0.out _ ((Below.refl _ _).alloc (Nat.le_refl _) _)).mono ?_ | refine (H0.out _ (((Below.refl _ _).alloc (Nat.le_refl _) _).alloc (by simp) _)).mono ?_); rintro e w1 ⟨rfl, rfl⟩))
  go_ret
  first | exact ⟨rfl, Below.refl _ _⟩ | exact ⟨rfl, (Below.refl _ _).alloc (Nat.le_refl _) _⟩
set_option maxRecDepth 100000 in
set_option maxHeartbeats 1000000 in
theorem touch_no (s : ByteArray) (w : World) (p : Value) (h : Nobody w p) :
    Calls Tryz.prog 74 #[p, .string s] w fun e w' => e = .returned (.int .i64 3) ∧ Below w.heap.size w w' := by
  have H0 := Lib.hid (fun W (hW : Below w.heap.size w W) => there_no s true W p (h.below hW))
  clear h
  go_enter Tryz.func74, Tryz.ntmps74
  go_wp2_with (first | (go_at_call 40; (first | refine (H0.out _ (Below.refl _ _)).mono ?_ | refine (H0.out _ ((Below.refl _ _).alloc (Nat.le_refl _) _)).mono ?_ | refine (H0.out _ (((Below.refl _ _).alloc (Nat.le_refl _) _).alloc (by simp) _)).mono ?_); rintro e w1 ⟨rfl, hb1⟩; have HB1 := Lib.hid hb1; clear hb1))
  go_ret
  first | exact ⟨rfl, HB1.out⟩ | exact ⟨rfl, HB1.out.alloc HB1.out.size _⟩ | exact ⟨rfl, ((Below.refl _ _).alloc (Nat.le_refl _) _).trans (HB1.out.mono (by simp [World.size_alloc]))⟩ | exact ⟨rfl, by trace_state; exact HB1.out⟩
set_option maxRecDepth 100000 in
set_option maxHeartbeats 1000000 in
theorem stat_no (s : ByteArray) (fw : Bool) (w : World) (p : Value) (h : Nobody w p) :
    Calls Tryz.prog 14 #[p, .string s, .bool fw] w fun e w' => e = .returned (.tuple #[.agg #[.int .i64 0, .int .i64 0, .int .i64 0, .int .i64 0, .int .i64 0, .int .i64 0], .int .i64 3]) ∧ Below w.heap.size w w' := by
  have H0 := Lib.hid (fun W (hW : Below w.heap.size w W) => there_no s fw W p (h.below hW))
  clear h
  go_enter Tryz.func14, Tryz.ntmps14
  go_wp2_with (first | (go_at_call 40; (first | refine (H0.out _ (Below.refl _ _)).mono ?_ | refine (H0.out _ ((Below.refl _ _).alloc (Nat.le_refl _) _)).mono ?_ | refine (H0.out _ (((Below.refl _ _).alloc (Nat.le_refl _) _).alloc (by simp) _)).mono ?_); rintro e w1 ⟨rfl, hb1⟩; have RB2 := (heap_alloc_old w1 (.cells #[.slice none 0 0, .string { data := #[] }, .int .i64 0, .bool false] 92) (Nat.lt_of_lt_of_le (by simp) hb1.size)).trans ((hb1.block w.heap.size (by simp)).trans (heap_alloc_new w (.cells #[.int .i64 0, .int .i64 0, .int .i64 0, .int .i64 0, .int .i64 0, .int .i64 0] 39))); have e0 := froz_blk RB2 0; have q0 := cell_blk RB2 0; have e1 := froz_blk RB2 1; have q1 := cell_blk RB2 1; have e2 := froz_blk RB2 2; have q2 := cell_blk RB2 2; have e3 := froz_blk RB2 3; have q3 := cell_blk RB2 3; have e4 := froz_blk RB2 4; have q4 := cell_blk RB2 4; have e5 := froz_blk RB2 5; have q5 := cell_blk RB2 5; simp at q0 q1 q2 q3 q4 q5; have HRB2 := Lib.hid RB2; clear RB2; have HB1 := Lib.hid hb1; clear hb1))
  refine bodyPost_ret (results_cell2 rfl _ _ _ 39 #[.int .i64 0, .int .i64 0, .int .i64 0, .int .i64 0, .int .i64 0, .int .i64 0] (0, 0) _ rfl (by have h := (set_blk (j := 5) (set_blk (j := 4) (set_blk (j := 3) (set_blk (j := 2) (set_blk (j := 1) (set_blk (j := 0) HRB2.out (.int .i64 0)) (.int .i64 0)) (.int .i64 0)) (.int .i64 0)) (.int .i64 0)) (.int .i64 0)); exact h) Tryz.underlying39 rfl (by kernel_rfl)) rfl ?_
  have hb := ((Below.refl w.heap.size w).alloc (Nat.le_refl _) (.cells #[.int .i64 0, .int .i64 0, .int .i64 0, .int .i64 0, .int .i64 0, .int .i64 0] 39)).trans (HB1.out.mono (by simp))
  exact ⟨rfl, ((((((hb.alloc hb.size _).setCell (Nat.le_refl _) _).setCell (Nat.le_refl _) _).setCell (Nat.le_refl _) _).setCell (Nat.le_refl _) _).setCell (Nat.le_refl _) _).setCell (Nat.le_refl _) _⟩
set_option maxRecDepth 100000 in
set_option maxHeartbeats 1000000 in
theorem read_no (s : ByteArray) (w : World) (p : Value) (h : Nobody w p) :
    Calls Tryz.prog 12 #[p, .string s] w fun e w' => e = .returned (.tuple #[.string { data := #[] }, .int .i64 3]) ∧ Below w.heap.size w w' := by
  have H0 := Lib.hid (fun W (hW : Below w.heap.size w W) => there_no s true W p (h.below hW))
  clear h
  go_enter Tryz.func12, Tryz.ntmps12
  go_wp2_with (first | (go_at_call 40; (first | refine (H0.out _ (Below.refl _ _)).mono ?_ | refine (H0.out _ ((Below.refl _ _).alloc (Nat.le_refl _) _)).mono ?_ | refine (H0.out _ (((Below.refl _ _).alloc (Nat.le_refl _) _).alloc (by simp) _)).mono ?_); rintro e w1 ⟨rfl, hb1⟩; have HB1 := Lib.hid hb1; clear hb1))
  go_ret2
  first | exact ⟨rfl, HB1.out⟩ | exact ⟨rfl, HB1.out.alloc HB1.out.size _⟩ | exact ⟨rfl, ((Below.refl _ _).alloc (Nat.le_refl _) _).trans (HB1.out.mono (by simp [World.size_alloc]))⟩ | exact ⟨rfl, by trace_state; exact HB1.out⟩
set_option maxRecDepth 100000 in
set_option maxHeartbeats 1000000 in
theorem target_no (s : ByteArray) (w : World) (p : Value) (h : Nobody w p) :
    Calls Tryz.prog 34 #[p, .string s] w fun e w' => e = .returned (.tuple #[.string { data := #[] }, .int .i64 3]) ∧ Below w.heap.size w w' := by
  have H0 := Lib.hid (fun W (hW : Below w.heap.size w W) => there_no s false W p (h.below hW))
  clear h
  go_enter Tryz.func34, Tryz.ntmps34
  go_wp2_with (first | (go_at_call 40; (first | refine (H0.out _ (Below.refl _ _)).mono ?_ | refine (H0.out _ ((Below.refl _ _).alloc (Nat.le_refl _) _)).mono ?_ | refine (H0.out _ (((Below.refl _ _).alloc (Nat.le_refl _) _).alloc (by simp) _)).mono ?_); rintro e w1 ⟨rfl, hb1⟩; have HB1 := Lib.hid hb1; clear hb1))
  go_ret2
  first | exact ⟨rfl, HB1.out⟩ | exact ⟨rfl, HB1.out.alloc HB1.out.size _⟩ | exact ⟨rfl, ((Below.refl _ _).alloc (Nat.le_refl _) _).trans (HB1.out.mono (by simp [World.size_alloc]))⟩ | exact ⟨rfl, by trace_state; exact HB1.out⟩
set_option maxRecDepth 100000 in
set_option maxHeartbeats 1000000 in
theorem list_no (s : ByteArray) (w : World) (p : Value) (h : Nobody w p) :
    Calls Tryz.prog 20 #[p, .string s] w fun e w' => e = .returned (.tuple #[.slice none 0 0, .int .i64 3]) ∧ Below w.heap.size w w' := by
  have H0 := Lib.hid (fun W (hW : Below w.heap.size w W) => there_no s true W p (h.below hW))
  clear h
  go_enter Tryz.func20, Tryz.ntmps20
  go_wp2_with (first | (go_at_call 40; (first | refine (H0.out _ (Below.refl _ _)).mono ?_ | refine (H0.out _ ((Below.refl _ _).alloc (Nat.le_refl _) _)).mono ?_ | refine (H0.out _ (((Below.refl _ _).alloc (Nat.le_refl _) _).alloc (by simp) _)).mono ?_); rintro e w1 ⟨rfl, hb1⟩; have HB1 := Lib.hid hb1; clear hb1))
  go_ret2
  first | exact ⟨rfl, HB1.out⟩ | exact ⟨rfl, HB1.out.alloc HB1.out.size _⟩ | exact ⟨rfl, ((Below.refl _ _).alloc (Nat.le_refl _) _).trans (HB1.out.mono (by simp [World.size_alloc]))⟩ | exact ⟨rfl, by trace_state; exact HB1.out⟩
set_option maxRecDepth 100000 in
set_option maxHeartbeats 1000000 in
theorem link_no (s t : ByteArray) (w : World) (p : Value) (h : Nobody w p) :
    Calls Tryz.prog 22 #[p, .string s, .string t] w fun e w' => e = .returned (.int .i64 3) ∧ Below w.heap.size w w' := by
  have H0 := Lib.hid (fun W (hW : Below w.heap.size w W) => there_no s false W p (h.below hW))
  clear h
  go_enter Tryz.func22, Tryz.ntmps22
  go_wp2_with (first | (go_at_call 40; (first | refine (H0.out _ (Below.refl _ _)).mono ?_ | refine (H0.out _ ((Below.refl _ _).alloc (Nat.le_refl _) _)).mono ?_ | refine (H0.out _ (((Below.refl _ _).alloc (Nat.le_refl _) _).alloc (by simp) _)).mono ?_); rintro e w1 ⟨rfl, hb1⟩; have HB1 := Lib.hid hb1; clear hb1))
  go_ret
  first | exact ⟨rfl, HB1.out⟩ | exact ⟨rfl, HB1.out.alloc HB1.out.size _⟩ | exact ⟨rfl, ((Below.refl _ _).alloc (Nat.le_refl _) _).trans (HB1.out.mono (by simp [World.size_alloc]))⟩ | exact ⟨rfl, by trace_state; exact HB1.out⟩
set_option maxRecDepth 100000 in
set_option maxHeartbeats 1000000 in
theorem rmdir_no (s : ByteArray) (w : World) (p : Value) (h : Nobody w p) :
    Calls Tryz.prog 21 #[p, .string s] w fun e w' => e = .returned (.int .i64 3) ∧ Below w.heap.size w w' := by
  have H0 := Lib.hid (fun W (hW : Below w.heap.size w W) => namedThere_no s W p (h.below hW))
  clear h
  go_enter Tryz.func21, Tryz.ntmps21
  go_wp2_with (first | (go_at_call 49; (first | refine (H0.out _ (Below.refl _ _)).mono ?_ | refine (H0.out _ ((Below.refl _ _).alloc (Nat.le_refl _) _)).mono ?_ | refine (H0.out _ (((Below.refl _ _).alloc (Nat.le_refl _) _).alloc (by simp) _)).mono ?_); rintro e w1 ⟨rfl, hb1⟩; have HB1 := Lib.hid hb1; clear hb1))
  go_ret
  first | exact ⟨rfl, HB1.out⟩ | exact ⟨rfl, HB1.out.alloc HB1.out.size _⟩ | exact ⟨rfl, ((Below.refl _ _).alloc (Nat.le_refl _) _).trans (HB1.out.mono (by simp [World.size_alloc]))⟩ | exact ⟨rfl, by trace_state; exact HB1.out⟩
set_option maxRecDepth 100000 in
set_option maxHeartbeats 1000000 in
theorem unlink_no (s : ByteArray) (w : World) (p : Value) (h : Nobody w p) :
    Calls Tryz.prog 18 #[p, .string s] w fun e w' => e = .returned (.int .i64 3) ∧ Below w.heap.size w w' := by
  have H0 := Lib.hid (fun W (hW : Below w.heap.size w W) => namedThere_no s W p (h.below hW))
  clear h
  go_enter Tryz.func18, Tryz.ntmps18
  go_wp2_with (first | (go_at_call 49; (first | refine (H0.out _ (Below.refl _ _)).mono ?_ | refine (H0.out _ ((Below.refl _ _).alloc (Nat.le_refl _) _)).mono ?_ | refine (H0.out _ (((Below.refl _ _).alloc (Nat.le_refl _) _).alloc (by simp) _)).mono ?_); rintro e w1 ⟨rfl, hb1⟩; have HB1 := Lib.hid hb1; clear hb1))
  go_ret
  first | exact ⟨rfl, HB1.out⟩ | exact ⟨rfl, HB1.out.alloc HB1.out.size _⟩ | exact ⟨rfl, ((Below.refl _ _).alloc (Nat.le_refl _) _).trans (HB1.out.mono (by simp [World.size_alloc]))⟩ | exact ⟨rfl, by trace_state; exact HB1.out⟩
set_option maxRecDepth 100000 in
set_option maxHeartbeats 1000000 in
theorem rename_no (s t : ByteArray) (w : World) (p : Value) (h : Nobody w p) :
    Calls Tryz.prog 24 #[p, .string s, .string t] w fun e w' => e = .returned (.int .i64 3) ∧ Below w.heap.size w w' := by
  have H0 := Lib.hid (fun W (hW : Below w.heap.size w W) => namedThere_no s W p (h.below hW))
  clear h
  go_enter Tryz.func24, Tryz.ntmps24
  go_wp2_with (first | (go_at_call 49; (first | refine (H0.out _ (Below.refl _ _)).mono ?_ | refine (H0.out _ ((Below.refl _ _).alloc (Nat.le_refl _) _)).mono ?_ | refine (H0.out _ (((Below.refl _ _).alloc (Nat.le_refl _) _).alloc (by simp) _)).mono ?_); rintro e w1 ⟨rfl, hb1⟩; have HB1 := Lib.hid hb1; clear hb1))
  go_ret
  first | exact ⟨rfl, HB1.out⟩ | exact ⟨rfl, HB1.out.alloc HB1.out.size _⟩ | exact ⟨rfl, ((Below.refl _ _).alloc (Nat.le_refl _) _).trans (HB1.out.mono (by simp [World.size_alloc]))⟩ | exact ⟨rfl, by trace_state; exact HB1.out⟩
end Go.Proofs.YtkmnbbocahjmaaaGreatDoor
end

section
namespace Go.Proofs.YtkmnbbocahjmaaaGreatDoor
open Go.RowKit Go.Sort Go.Lib Go.Shelf
open PathM TreeM VtM
set_option linter.unusedVariables false
set_option maxRecDepth 100000 in
theorem thruLong_any (s : ByteArray) (w : World) :
    Calls Tryz.prog 133 #[.string s] w fun e w' => e = .returned (.bool (decide ((64 : Int) < s.size))) ∧ w = w' := by
  go_enter Tryz.func133, Tryz.ntmps133
  go_wp2
  go_ret
  exact ⟨rfl, rfl⟩
set_option maxRecDepth 100000 in
theorem thruNone_any (s : ByteArray) (w : World) :
    Calls Tryz.prog 135 #[.string s] w fun e w' => e = .returned (.bool s.toList.isEmpty) ∧ w = w' := by
  go_enter Tryz.func135, Tryz.ntmps135
  go_wp2
  go_ret
  exact ⟨rfl, rfl⟩
/-- A name as a value. -/
def encN (b : Bs) : Value := .string (nm b)
theorem oneName : OneCell encN := fun _ => rfl
theorem predLong (w : World) : PredAt Tryz.prog 133 #[] encN (fun b => decide (64 < b.length)) w := by
  intro W b _
  refine (thruLong_any (nm b) W).mono ?_
  rintro e w1 ⟨rfl, rfl⟩
  refine ⟨?_, 0, (World.drewN_zero _).symm⟩
  rw [sizeD]
  congr 2
  have : (nm b).data.toList = b := rfl
  rw [this]
  exact decide_eq_decide.2 (by omega)
theorem noneGives (W : World) (b : Bs) : FnGives Tryz.prog 135 #[] #[encN b] (.bool b.isEmpty) W := by
  refine (thruNone_any (nm b) W).mono ?_
  rintro e w1 ⟨rfl, rfl⟩
  refine ⟨?_, 0, (World.drewN_zero _).symm⟩
  rw [listD]
  rfl
theorem predNone (w : World) : PredAt Tryz.prog 135 #[] encN (fun b => b.isEmpty) w := fun W b _ => noneGives W b
theorem overNone (blk off size : Nat) (w : World) : PredOver Tryz.prog 135 #[] encN (fun b => b.isEmpty) blk off size w := fun _ _ _ b _ => noneGives _ b
theorem entLong : ∀ args w, (callFunc 133 args).run Tryz.prog w = .ok (.enter 133 args) w := enters_of Tryz.func133 (by kernel_rfl) rfl
theorem entNone : ∀ args w, (callFunc 135 args).run Tryz.prog w = .ok (.enter 135 args) w := enters_of Tryz.func135 (by kernel_rfl) rfl
/-- Is a name of a link's way too long? -/
theorem longNames_any (b n c : Nat) (off : Nat) (l : List Bs) (w : World) (hn : l.length = n) (hbig : n ≤ maxLen) (hc : ∀ j, j < l.length → w.cell? ⟨b, off + j, none⟩ = some (encN l[j]!)) :
    Calls Tryz.prog 132 #[.slice (some ⟨b, off, none⟩) n c, .func (.func 133) #[] #[]] w fun e w' => e = .returned (.bool (l.any fun b => decide (64 < b.length))) ∧ ∃ q, w' = w.drewN q := by
  refine (Tryz.slices_ContainsFunc encN _ _ #[] entLong b off n c l w (predLong w) (by omega) (by unfold maxLen at hbig; omega) hc).mono ?_
  rintro e w1 ⟨rfl, q, rfl⟩
  refine ⟨?_, q, rfl⟩
  rw [List.take_of_length_le (by omega)]
/-- The names of a link's way without the empty ones. -/
theorem dropNames_any (b n c off : Nat) (l : List Bs) (w : World) (hn : l.length = n) (hbig : n ≤ maxLen) (hcap : n ≤ c) (hH : Holds encN w b off l.toArray) :
    Calls Tryz.prog 134 #[.slice (some ⟨b, off, none⟩) n c, .func (.func 135) #[] #[]] w fun e w' => e = .returned (.slice (some ⟨b, off, none⟩) (l.filter fun x : Bs => !x.isEmpty).length c) ∧ ∃ q, w' = putRow encN (Sort.ahead w q) b off ((l.filter fun x : Bs => !x.isEmpty) ++ List.replicate (n - (l.filter fun x : Bs => !x.isEmpty).length) []).toArray := by
  subst hn
  have := Tryz.slices_DeleteFunc encN oneName (fun b => b.isEmpty) _ #[] entNone [] (fun w => by kernel_rfl) b off c l.toArray w (predNone w) (overNone _ _ _ w) hH (by unfold maxLen at hbig; simp; omega) (by simpa using hcap)
  simpa using this
end Go.Proofs.YtkmnbbocahjmaaaGreatDoor
end

section
namespace Go.Proofs.YtkmnbbocahjmaaaGreatDoor
open Go.RowKit Go.Sort Go.Lib Go.Shelf
open PathM TreeM VtM
set_option linter.unusedVariables false
theorem index_cons (c : UInt8) (r : Bs) : index (c :: r) [47] = if c = 47 then 0 else if index r [47] = -1 then -1 else index r [47] + 1 := by
  simp only [index, List.isPrefixOf, Bool.and_true, beq_iff_eq]
  by_cases h : c = 47
  · simp [h]
  · have h2 : ¬ (47 = c) := fun e => h e.symm
    simp [h, h2]
theorem splitK_btw : ∀ (l : Bs) (k : Nat), l.count 47 ≤ k → splitK [47] 0 k l = btw l
  | [], k, _ => by
    cases k with
    | zero => rfl
    | succ k => rfl
  | c :: r, 0, h => by
    have hc : c ≠ 47 := by rintro rfl; simp at h
    have ih := splitK_btw r 0 (by rw [List.count_cons_of_ne hc] at h; exact h)
    rw [btw, if_neg hc, ← ih]
    rfl
  | c :: r, k + 1, h => by
    by_cases hc : c = 47
    · subst hc
      have ih := splitK_btw r k (by rw [List.count_cons_self] at h; omega)
      rw [btw, if_pos rfl, ← ih, splitK, index_cons, if_pos rfl]
      simp
    · have ih := splitK_btw r (k + 1) (by rw [List.count_cons_of_ne hc] at h; exact h)
      have hg := index_ge r [47]
      rw [btw, if_neg hc, ← ih, splitK, splitK, index_cons, if_neg hc]
      by_cases hi : index r [47] = -1
      · simp [hi]
      · obtain ⟨i, hi2⟩ : ∃ i : Nat, index r [47] = i := ⟨(index r [47]).toNat, by omega⟩
        rw [if_neg hi, hi2]
        have e1 : (((i : Int) + 1 == -1) = false) := by simp; omega
        have e2 : (((i : Int) == -1) = false) := by simp
        have e3 : ((i : Int) + 1).toNat = i + 1 := by omega
        rw [e1, e2]
        simp [e3]
theorem countFrom_ge : ∀ (l : Bs) (f : Nat), l.length < f → l.count 47 ≤ countFrom [47] f l
  | [], f, _ => by simp
  | c :: r, 0, h => by simp at h
  | c :: r, f + 1, h => by
    have hl : r.length < f := by simpa using h
    by_cases hc : c = 47
    · subst hc
      have ih := countFrom_ge r f hl
      rw [List.count_cons_self, countFrom, index_cons, if_pos rfl]
      simp
      omega
    · have ih := countFrom_ge r (f + 1) (by omega)
      have hg := index_ge r [47]
      rw [List.count_cons_of_ne hc]
      refine Nat.le_trans ih ?_
      rw [countFrom, countFrom, index_cons, if_neg hc]
      by_cases hi : index r [47] = -1
      · simp [hi]
      · obtain ⟨i, hi2⟩ : ∃ i : Nat, index r [47] = i := ⟨(index r [47]).toNat, by omega⟩
        rw [if_neg hi, hi2]
        have e1 : (((i : Int) + 1 == -1) = false) := by simp; omega
        have e2 : (((i : Int) == -1) = false) := by simp
        have e3 : ((i : Int) + 1).toNat = i + 1 := by omega
        rw [e1, e2]
        simp [e3]
/-- What strings.Split hands back at one slash. -/
theorem split_btw (s sep : ByteArray) (hs : sep.data.toList = [47]) : (splitB sep 0 (countB s sep) s).map Value.string = (btw s.data.toList).map encN := by
  have h := splitB_data sep 0 (countB s sep) s
  rw [hs, splitK_btw _ _ (by unfold countB count; rw [hs]; exact countFrom_ge _ _ (Nat.lt_succ_self _))] at h
  rw [← h, List.map_map]
  refine List.map_congr_left fun b _ => ?_
  rfl
theorem count_btw (s sep : ByteArray) (hs : sep.data.toList = [47]) : countB s sep + 1 = (btw s.data.toList).length := by
  have h1 := splitB_all sep (by rw [size_eq, hs]; decide) 0 _ s rfl
  have h2 := congrArg List.length (split_btw s sep hs)
  simp only [List.length_map] at h2
  omega
/-- The names between a link's slashes, in a block of the call's own; the library's own variable (how long what it looks for may be) holds an int. -/
theorem split_any (s sep : ByteArray) (hs : sep.data.toList = [47]) (w : World) (hn : s.size < 4294967281) (hm : ∃ m, w.cell? ⟨0, 0, none⟩ = some (.int .i64 m)) :
    Calls Tryz.prog 131 #[.string s, .string sep] w fun e w' => e = .returned (.slice (some ⟨w.heap.size, 0, none⟩) (btw s.data.toList).length (btw s.data.toList).length) ∧ w' = w.alloc (.cells ((btw s.data.toList).map encN).toArray 9) := by
  obtain ⟨m, hm⟩ := hm
  have h := Tryz.strings_Split s sep m w hn hm (by rw [size_eq, hs]; decide)
  rw [count_btw s sep hs, split_btw s sep hs] at h
  exact h
end Go.Proofs.YtkmnbbocahjmaaaGreatDoor
end

section
namespace Go.Proofs.YtkmnbbocahjmaaaGreatDoor
open Go.RowKit Go.Sort Go.Lib Go.Shelf
open PathM TreeM VtM
set_option linter.unusedVariables false
attribute [local go_sem] cell_rg
set_option maxRecDepth 100000 in
set_option maxHeartbeats 1000000 in
theorem through_loop (wb db : Nat) (s : WS) (fw : Bool) (dv lv : Value) (w : World) (hw : WalkIn w wb db s fw dv lv) (h8 : 8 < s.hops + 1) (hh : s.hops ≤ 1000) :
    Calls Tryz.prog 101 #[.pointer (some ⟨wb, 0, none⟩)] w fun e w' => e = .returned (.int .i64 25) ∧ Kept (fun k => k = wb) w w' := by
  have k8 := cell_blk hw.blk 8
  have f8 := froz_blk hw.blk 8
  simp at k8
  generalize s.hops = n at *
  have q : (8 : Int) < (n : Int) + 1 := by omega
  clear hw h8
  go_enter Tryz.func101, Tryz.ntmps101
  go_wp2
  go_ret
  exact ⟨rfl, Kept.setCell _ _ rfl⟩
end Go.Proofs.YtkmnbbocahjmaaaGreatDoor
end

section
namespace Go.Proofs.YtkmnbbocahjmaaaGreatDoor
open Go.RowKit Go.Sort Go.Lib Go.Shelf
open PathM TreeM VtM
set_option linter.unusedVariables false
attribute [local go_sem] cell_rg
theorem names_cells (w : World) (l : List Bs) (t : TypeId) : ∀ j, j < l.length → (w.alloc (.cells (l.map encN).toArray t)).cell? ⟨w.heap.size, 0 + j, none⟩ = some (encN l[j]!) := by
  intro j hj
  have h := cell_blk (heap_alloc_new w (.cells (l.map encN).toArray t)) (0 + j)
  rw [h]
  simp [hj]
theorem field_data (a0 a1 a2 a3 a4 : Int) (d : ByteArray) (w : World) : Sem.run Tryz.prog (Instr.field 64 (.agg #[.int .i64 a0, .int .i64 a1, .int .i64 a2, .int .i64 a3, .int .i64 a4, .string d, .slice none 0 0]) 5) w = .ok (.string d) w := by kernel_rfl
set_option maxRecDepth 100000 in
set_option maxHeartbeats 1000000 in
theorem through_long (wb db mb : Nat) (t : Tr) (ev : Int → Value) (s : WS) (fw : Bool) (dv lv : Value) (w : World) (hw : WalkIn w wb db s fw dv lv) (h8 : ¬ 8 < s.hops + 1) (hid : i64 s.node) (hlong : ((btw (nod t.nodes s.node).data).any fun b => decide (64 < b.length)) = true) (hlen : (nod t.nodes s.node).data.length < 4294967281) (hbt : (btw (nod t.nodes s.node).data).length ≤ maxLen)
    (hD : ∀ W, Kept (fun k => k = wb) w W → DiskIn W db mb t ev) (hM : ∀ W, Kept (fun k => k = wb) w W → ∃ m, W.cell? ⟨0, 0, none⟩ = some (.int .i64 m)) :
    Calls Tryz.prog 101 #[.pointer (some ⟨wb, 0, none⟩)] w fun e w' => e = .returned (.int .i64 26) ∧ Kept (fun k => k = wb) w w' := by
  have k0 := cell_blk hw.blk 0
  have k3 := cell_blk hw.blk 3
  have k8 := cell_blk hw.blk 8
  have f8 := froz_blk hw.blk 8
  simp at k0 k3 k8
  have RB1 := set_blk (j := 8) hw.blk (.int .i64 ((s.hops : Int) + 1))
  have g0 := cell_blk RB1 0
  have g3 := cell_blk RB1 3
  simp at g0 g3
  have hlt := blk_lt RB1
  clear RB1
  have hm := method_Node
  have hfd := field_data
  have HN := Lib.hid (fun W (hW : Kept (fun k => k = wb) w W) => dnode_any db mb t ev s.node W (hD W hW) hid)
  have HS := Lib.hid (fun (a b : ByteArray) (hb : b.data.toList = [47]) (ha : a.size < 4294967281) W (hW : Kept (fun k => k = wb) w W) => split_any a b hb W ha (hM W hW))
  have HLEN := Lib.hid hlen
  have HLONG := Lib.hid hlong
  have HBT := Lib.hid hbt
  generalize nod t.nodes s.node = nd at *
  generalize s.node = id at *
  generalize s.hops = n at *
  have q : ¬ (8 : Int) < (n : Int) + 1 := by omega
  have q2 : (n : Int) ≤ 8 := by omega
  clear hw h8 hid hD hM hlong hlen hbt
  unfold ndV at HN
  go_enter Tryz.func101, Tryz.ntmps101
  go_wp2
  have HK0 : Hid (Kept (fun k => k = wb) w (w.setCell ⟨wb, 8, none⟩ (.int .i64 ((n : Int) + 1)))) := Lib.hid (Kept.setCell _ _ rfl)
  generalize w.setCell ⟨wb, 8, none⟩ (.int .i64 ((n : Int) + 1)) = W1 at *
  clear k0 k3 k8 f8
  refine wp_region_quiet_below (by kernel_rfl) (by kernel_rfl) ?_
  repeat (first | go_big_quiet_step (((go_at_call 202; exact Calls.regrown_of (HN.out _ (HK0.out.trans (kept_of_below (below_regrown _ _ _))))))) | quiet_step (((go_at_call 202; exact Calls.regrown_of (HN.out _ (HK0.out.trans (kept_of_below (below_regrown _ _ _))))))))
  refine wpQuiet_nil ?_
  intro _ hw'
  obtain ⟨⟨dq, osq⟩, hw''⟩ := hw'
  subst hw''
  have HK1 : Hid (Kept (fun k => k = wb) w (grow (redrawn W1 dq) osq)) := Lib.hid (HK0.out.trans (kept_of_below (below_regrown _ _ _)))
  generalize grow (redrawn W1 dq) osq = W2 at *
  clear g0 g3 hlt
  go_wp2_with (first
    | (go_at_call 131; refine (HS.out _ _ rfl (by rw [sizeD]; exact HLEN.out) _ HK1.out).mono ?_; rintro e w2 ⟨rfl, rfl⟩)
    | (go_at_call 132; refine (longNames_any _ _ _ 0 (btw nd.data) _ rfl HBT.out (names_cells _ _ _)).mono ?_; rintro e w3 ⟨rfl, qd, rfl⟩; rw [HLONG.out]))
  go_ret
  exact ⟨rfl, (HK1.out.trans (kept_of_below ((Below.refl _ _).alloc (Nat.le_refl _) _))).trans (kept_of_below (below_drewN' (Below.refl _ _) _))⟩
end Go.Proofs.YtkmnbbocahjmaaaGreatDoor
end

section
namespace Go.Proofs.YtkmnbbocahjmaaaGreatDoor
open Go.RowKit Go.Sort Go.Lib
open PathM TreeM VtM
set_option linter.unusedVariables false
attribute [local go_sem] cell_rg
set_option maxRecDepth 100000 in
theorem dnone_nil (w : World) : Calls Tryz.prog 56 #[.pointer none] w fun e w' => e = .returned (.bool true) ∧ w = w' := by
  go_enter Tryz.func56, Tryz.ntmps56
  go_wp2
  go_ret
  exact ⟨rfl, rfl⟩
set_option maxRecDepth 100000 in
theorem tree_nil (w : World) : Calls Tryz.prog 23 #[.pointer none] w fun e w' => e = .returned (.agg #[.slice none 0 0, .int .i64 0, .int .i64 0, .int .i64 0]) ∧ Below w.heap.size w w' := by
  have HN := Lib.hid dnone_nil
  go_enter Tryz.func23, Tryz.ntmps23
  go_wp2_with (go_at_call 56; refine (HN.out _).mono ?_; rintro e w1 ⟨rfl, rfl⟩)
  refine bodyPost_ret (results_cell_row rfl _ _ _ 26 _ (0, 0) _ rfl (heap_alloc_new w _) Tryz.underlying26 rfl (by kernel_rfl)) rfl ?_
  exact ⟨rfl, (Below.refl _ _).alloc (Nat.le_refl _) _⟩
end Go.Proofs.YtkmnbbocahjmaaaGreatDoor
end
