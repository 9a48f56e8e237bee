/- DERIVED. Stage 5, several texts in one: VtMoves VtOpenA VtOpenB VtDoes VtFilled. -/
import Derived.Test.YtpicgkoclbpjpaaGreatDoorVnG12
import Derived.Test.YtpicgkoclbpjpaaGreatDoorVnG5
import Derived.Test.YtpicgkoclbpjpaaGreatDoorVnG11
import Derived.Test.YtpicgkoclbpjpaaGreatDoorVnG6
import Derived.Test.YtpicgkoclbpjpaaGreatDoorVnG8
section
namespace Go.Proofs.YtpicgkoclbpjpaaGreatDoor
open Go.RowKit Go.Sort Go.Lib Go.Shelf
open PathM TreeM VtM
set_option linter.unusedVariables false
attribute [local go_sem] cell_rg
attribute [local go_sem] cell_off
attribute [local go_sem] cell_far
/-- What is answered where a node is not among the other's way. -/
def refN (da onto b0 sl : Bool) (es : List Ent) : Int :=
  if ((da && (!b0 && !onto)) || (!da && (sl && !onto))) = true then 22 else if (onto && !da) = true then 23 else if (onto && !es.isEmpty) = true then 24 else 0
theorem refuse_eq (f : Fs) (a b : At) (hin : a.node ∉ b.dirs) : refuseF f a b = refN (decide (a.node ≠ 0 ∧ kindF f a.node = 1)) (decide (b.node ≠ 0 ∧ kindF f b.node = 1)) (decide (b.node = 0)) b.slash (nod f.t.nodes b.node).es := by
  unfold refuseF refN
  dsimp only
  rw [if_neg hin]
  generalize decide (a.node ≠ 0 ∧ kindF f a.node = 1) = da
  generalize decide (b.node ≠ 0 ∧ kindF f b.node = 1) = db
  generalize (nod f.t.nodes b.node).es = es
  by_cases h0 : b.node = 0
  · simp only [h0]
    cases da <;> cases db <;> cases b.slash <;> cases es <;> simp
  · have : decide (b.node = 0) = false := decide_eq_false h0
    rw [this]
    cases da <;> cases db <;> cases b.slash <;> cases es <;> simp [h0]
set_option maxRecDepth 100000 in
set_option maxHeartbeats 4000000 in
theorem refuse_any {k : Nat} {f : Fs} (fb db mb : Nat) (a b : At) (A A' : Option Addr) (c c' : Nat) (w : World) (h : Sys w fb db mb k f) (ha : AtOk f.t a) (hb : AtOk f.t b) (hIa : IntsIn w w.heap.size (.slice A a.dirs.length c) a.dirs) (hIb : IntsIn w w.heap.size (.slice A' b.dirs.length c') b.dirs) (hkk : k < 800000) :
    Calls Tryz.prog 62 #[.pointer (some ⟨fb, 0, none⟩), .agg #[.slice A a.dirs.length c, .string (nm a.name), .int .i64 a.node, .bool a.slash], .agg #[.slice A' b.dirs.length c', .string (nm b.name), .int .i64 b.node, .bool b.slash]] w fun e w' => e = .returned (.int .i64 (refuseF f a b)) ∧ Below w.heap.size w w' := by
  by_cases hin : a.node ∈ b.dirs
  · have e : refuseF f a b = 28 := by unfold refuseF; dsimp only; rw [if_pos hin]
    rw [e]
    exact refuse_in fb db mb a b A A' c c' w h ha hb hIa hIb hin
  rw [refuse_eq f a b hin]
  have hb0 := ((Below.refl w.heap.size w).alloc (Nat.le_refl _) (.cells #[.slice A a.dirs.length c, .string (nm a.name), .int .i64 a.node, .bool a.slash] 92)).alloc (by simp) (.cells #[.slice A' b.dirs.length c', .string (nm b.name), .int .i64 b.node, .bool b.slash] 92)
  have HB0 := Lib.hid hb0
  have hno := heap_alloc_new (w.alloc (.cells #[.slice A a.dirs.length c, .string (nm a.name), .int .i64 a.node, .bool a.slash] 92)) (.cells #[.slice A' b.dirs.length c', .string (nm b.name), .int .i64 b.node, .bool b.slash] 92)
  rw [show (w.alloc (.cells #[.slice A a.dirs.length c, .string (nm a.name), .int .i64 a.node, .bool a.slash] 92)).heap.size = w.heap.size + 1 from by simp] at hno
  have HNB := Lib.hid hno
  have HNA := Lib.hid ((heap_alloc_old (w.alloc (.cells #[.slice A a.dirs.length c, .string (nm a.name), .int .i64 a.node, .bool a.slash] 92)) (.cells #[.slice A' b.dirs.length c', .string (nm b.name), .int .i64 b.node, .bool b.slash] 92) (by simp)).trans (heap_alloc_new w (.cells #[.slice A a.dirs.length c, .string (nm a.name), .int .i64 a.node, .bool a.slash] 92)))
  have hda := fun W (hW : Below w.heap.size w W) => isD_any fb db mb a ha W A c (h.below hW) ((hIa.below hW).more hW.size)
  have hdb := fun W (hW : Below w.heap.size w W) => isD_any fb db mb b hb W A' c' (h.below hW) ((hIb.below hW).more hW.size)
  unfold BoolPost at hda hdb
  have HDA := Lib.hid hda
  have HDB := Lib.hid hdb
  obtain ⟨bb, ob, c2, he, hcap, hbb, _, hcells⟩ := hIb.cases hb.ne
  injection he with he1 _ he3
  subst he1
  have hlen := hb.len
  have HCT := Lib.hid (fun W (hW : Below w.heap.size w W) => Tryz.slices_Contains_int bb ob b.dirs.length c' b.dirs a.node W (Nat.le_refl _) (by omega) (fun j hj => (hW.cell (p := ⟨bb, ob + j, none⟩) hbb).trans (hcells j hj)))
  have hct : (b.dirs.take b.dirs.length).contains a.node = false := by rw [List.take_length]; simpa using hin
  rw [hct] at HCT
  have hm := method_Entries
  obtain ⟨ev, hd⟩ := h.live.disk
  have HEN := Lib.hid (fun W (hW : Below w.heap.size w W) => entries_any db mb f.t ev b.node W (hd.below hW) (hb.node64 h.ok) (by have := h.ok.ncnt b.node; omega))
  unfold EntsPost at HEN
  have HF0 := Lib.hid ((cell_blk h.live.files 0).trans (show _ = some (.iface 31 (.pointer (some ⟨db, 0, none⟩))) by simp))
  have hfl : fb < w.heap.size := blk_lt h.live.files
  have hdb0 : decide (b.node ≠ 0 ∧ kindF f b.node = 1) = true → decide (b.node = 0) = false := fun hh => decide_eq_false (of_decide_eq_true hh).1
  generalize decide (a.node ≠ 0 ∧ kindF f a.node = 1) = da at *
  generalize decide (b.node ≠ 0 ∧ kindF f b.node = 1) = dbb at *
  generalize (nod f.t.nodes b.node).es = es at *
  have hbn : (b.node != 0) = !decide (b.node = 0) := by
    by_cases hh : b.node = 0 <;> simp [hh]
  generalize decide (b.node = 0) = b0 at *
  generalize b.slash = sl at *
  clear hb0 hno hda hdb hct hcells hbb hcap hlen h ha hb hIa hIb hin he3 hd hkk
  cases dbb with
  | false =>
    clear HEN hdb0
    cases da with
    | true =>
      cases b0 with
      | false =>
        have hbn : (b.node != 0) = true := hbn
        go_enter Tryz.func62, Tryz.ntmps62
        go_wp2
        generalize ((w.alloc (.cells #[.slice A a.dirs.length c, .string (nm a.name), .int .i64 a.node, .bool a.slash] 92)).alloc (.cells #[.slice (some ⟨bb, ob, none⟩) b.dirs.length c', .string (nm b.name), .int .i64 b.node, .bool sl] 92)) = W1 at *
        have l0 := blk_lt HNA.out
        have l1 := blk_lt HNB.out
        have p0 := cell_blk HNA.out 0
        have p1 := cell_blk HNA.out 1
        have p2 := cell_blk HNA.out 2
        have p3 := cell_blk HNA.out 3
        have q0 := cell_blk HNB.out 0
        have q1 := cell_blk HNB.out 1
        have q2 := cell_blk HNB.out 2
        have q3 := cell_blk HNB.out 3
        simp at p0 p1 p2 p3 q0 q1 q2 q3
        refine wp_region_quiet_below (by kernel_rfl) (by kernel_rfl) ?_
        repeat (first | go_big_quiet_step (((go_at_call 41; first | (with_reducible exact Calls.regrown_of (HDA.out _ (HB0.out.trans ((below_regrown _ _ _).mono HB0.out.size)))) | (with_reducible exact Calls.regrown_of (HDB.out _ (HB0.out.trans ((below_regrown _ _ _).mono HB0.out.size))))))) | quiet_step (((go_at_call 41; first | (with_reducible exact Calls.regrown_of (HDA.out _ (HB0.out.trans ((below_regrown _ _ _).mono HB0.out.size)))) | (with_reducible exact Calls.regrown_of (HDB.out _ (HB0.out.trans ((below_regrown _ _ _).mono HB0.out.size))))))))
        refine wpQuiet_nil ?_
        intro _ hw'
        obtain ⟨⟨dq, osq⟩, hw''⟩ := hw'
        subst hw''
        have HB2 := Lib.hid (HB0.out.trans ((below_regrown W1 dq osq).mono HB0.out.size))
        go_wp2_with ((go_at_call 89; (with_reducible refine (HCT.out _ HB2.out).mono ?_); rintro e w' ⟨rfl, rfl⟩))
        go_ret
        exact ⟨rfl, HB2.out⟩
      | true =>
        have hbn : (b.node != 0) = false := hbn
        go_enter Tryz.func62, Tryz.ntmps62
        go_wp2
        generalize ((w.alloc (.cells #[.slice A a.dirs.length c, .string (nm a.name), .int .i64 a.node, .bool a.slash] 92)).alloc (.cells #[.slice (some ⟨bb, ob, none⟩) b.dirs.length c', .string (nm b.name), .int .i64 b.node, .bool sl] 92)) = W1 at *
        have l0 := blk_lt HNA.out
        have l1 := blk_lt HNB.out
        have p0 := cell_blk HNA.out 0
        have p1 := cell_blk HNA.out 1
        have p2 := cell_blk HNA.out 2
        have p3 := cell_blk HNA.out 3
        have q0 := cell_blk HNB.out 0
        have q1 := cell_blk HNB.out 1
        have q2 := cell_blk HNB.out 2
        have q3 := cell_blk HNB.out 3
        simp at p0 p1 p2 p3 q0 q1 q2 q3
        refine wp_region_quiet_below (by kernel_rfl) (by kernel_rfl) ?_
        repeat (first | go_big_quiet_step (((go_at_call 41; first | (with_reducible exact Calls.regrown_of (HDA.out _ (HB0.out.trans ((below_regrown _ _ _).mono HB0.out.size)))) | (with_reducible exact Calls.regrown_of (HDB.out _ (HB0.out.trans ((below_regrown _ _ _).mono HB0.out.size))))))) | quiet_step (((go_at_call 41; first | (with_reducible exact Calls.regrown_of (HDA.out _ (HB0.out.trans ((below_regrown _ _ _).mono HB0.out.size)))) | (with_reducible exact Calls.regrown_of (HDB.out _ (HB0.out.trans ((below_regrown _ _ _).mono HB0.out.size))))))))
        refine wpQuiet_nil ?_
        intro _ hw'
        obtain ⟨⟨dq, osq⟩, hw''⟩ := hw'
        subst hw''
        have HB2 := Lib.hid (HB0.out.trans ((below_regrown W1 dq osq).mono HB0.out.size))
        go_wp2_with ((go_at_call 89; (with_reducible refine (HCT.out _ HB2.out).mono ?_); rintro e w' ⟨rfl, rfl⟩))
        refine wp_region_quiet_below (by kernel_rfl) (by kernel_rfl) ?_
        repeat (first | go_big_quiet_step ((fail)) | quiet_step ((fail)))
        refine wpQuiet_nil ?_
        intro _ hw'
        obtain ⟨⟨dq2, osq2⟩, hw''⟩ := hw'
        subst hw''
        go_wp2
        go_ret
        exact ⟨rfl, HB2.out.trans ((below_regrown _ _ _).mono HB2.out.size)⟩
    | false =>
      clear hbn
      cases sl with
      | true =>
        go_enter Tryz.func62, Tryz.ntmps62
        go_wp2
        generalize ((w.alloc (.cells #[.slice A a.dirs.length c, .string (nm a.name), .int .i64 a.node, .bool a.slash] 92)).alloc (.cells #[.slice (some ⟨bb, ob, none⟩) b.dirs.length c', .string (nm b.name), .int .i64 b.node, .bool true] 92)) = W1 at *
        have l0 := blk_lt HNA.out
        have l1 := blk_lt HNB.out
        have p0 := cell_blk HNA.out 0
        have p1 := cell_blk HNA.out 1
        have p2 := cell_blk HNA.out 2
        have p3 := cell_blk HNA.out 3
        have q0 := cell_blk HNB.out 0
        have q1 := cell_blk HNB.out 1
        have q2 := cell_blk HNB.out 2
        have q3 := cell_blk HNB.out 3
        simp at p0 p1 p2 p3 q0 q1 q2 q3
        refine wp_region_quiet_below (by kernel_rfl) (by kernel_rfl) ?_
        repeat (first | go_big_quiet_step (((go_at_call 41; first | (with_reducible exact Calls.regrown_of (HDA.out _ (HB0.out.trans ((below_regrown _ _ _).mono HB0.out.size)))) | (with_reducible exact Calls.regrown_of (HDB.out _ (HB0.out.trans ((below_regrown _ _ _).mono HB0.out.size))))))) | quiet_step (((go_at_call 41; first | (with_reducible exact Calls.regrown_of (HDA.out _ (HB0.out.trans ((below_regrown _ _ _).mono HB0.out.size)))) | (with_reducible exact Calls.regrown_of (HDB.out _ (HB0.out.trans ((below_regrown _ _ _).mono HB0.out.size))))))))
        refine wpQuiet_nil ?_
        intro _ hw'
        obtain ⟨⟨dq, osq⟩, hw''⟩ := hw'
        subst hw''
        have HB2 := Lib.hid (HB0.out.trans ((below_regrown W1 dq osq).mono HB0.out.size))
        go_wp2_with ((go_at_call 89; (with_reducible refine (HCT.out _ HB2.out).mono ?_); rintro e w' ⟨rfl, rfl⟩))
        go_ret
        exact ⟨by cases b0 <;> rfl, HB2.out⟩
      | false =>
        go_enter Tryz.func62, Tryz.ntmps62
        go_wp2
        generalize ((w.alloc (.cells #[.slice A a.dirs.length c, .string (nm a.name), .int .i64 a.node, .bool a.slash] 92)).alloc (.cells #[.slice (some ⟨bb, ob, none⟩) b.dirs.length c', .string (nm b.name), .int .i64 b.node, .bool false] 92)) = W1 at *
        have l0 := blk_lt HNA.out
        have l1 := blk_lt HNB.out
        have p0 := cell_blk HNA.out 0
        have p1 := cell_blk HNA.out 1
        have p2 := cell_blk HNA.out 2
        have p3 := cell_blk HNA.out 3
        have q0 := cell_blk HNB.out 0
        have q1 := cell_blk HNB.out 1
        have q2 := cell_blk HNB.out 2
        have q3 := cell_blk HNB.out 3
        simp at p0 p1 p2 p3 q0 q1 q2 q3
        refine wp_region_quiet_below (by kernel_rfl) (by kernel_rfl) ?_
        repeat (first | go_big_quiet_step (((go_at_call 41; first | (with_reducible exact Calls.regrown_of (HDA.out _ (HB0.out.trans ((below_regrown _ _ _).mono HB0.out.size)))) | (with_reducible exact Calls.regrown_of (HDB.out _ (HB0.out.trans ((below_regrown _ _ _).mono HB0.out.size))))))) | quiet_step (((go_at_call 41; first | (with_reducible exact Calls.regrown_of (HDA.out _ (HB0.out.trans ((below_regrown _ _ _).mono HB0.out.size)))) | (with_reducible exact Calls.regrown_of (HDB.out _ (HB0.out.trans ((below_regrown _ _ _).mono HB0.out.size))))))))
        refine wpQuiet_nil ?_
        intro _ hw'
        obtain ⟨⟨dq, osq⟩, hw''⟩ := hw'
        subst hw''
        have HB2 := Lib.hid (HB0.out.trans ((below_regrown W1 dq osq).mono HB0.out.size))
        go_wp2_with ((go_at_call 89; (with_reducible refine (HCT.out _ HB2.out).mono ?_); rintro e w' ⟨rfl, rfl⟩))
        refine wp_region_quiet_below (by kernel_rfl) (by kernel_rfl) ?_
        repeat (first | go_big_quiet_step ((fail)) | quiet_step ((fail)))
        refine wpQuiet_nil ?_
        intro _ hw'
        obtain ⟨⟨dq2, osq2⟩, hw''⟩ := hw'
        subst hw''
        go_wp2
        go_ret
        exact ⟨by cases b0 <;> rfl, HB2.out.trans ((below_regrown _ _ _).mono HB2.out.size)⟩
  | true =>
    obtain rfl := hdb0 rfl
    have hbn : (b.node != 0) = true := hbn
    cases da with
    | false =>
      clear HEN hbn
      cases sl with
      | true =>
        go_enter Tryz.func62, Tryz.ntmps62
        go_wp2
        generalize ((w.alloc (.cells #[.slice A a.dirs.length c, .string (nm a.name), .int .i64 a.node, .bool a.slash] 92)).alloc (.cells #[.slice (some ⟨bb, ob, none⟩) b.dirs.length c', .string (nm b.name), .int .i64 b.node, .bool true] 92)) = W1 at *
        have l0 := blk_lt HNA.out
        have l1 := blk_lt HNB.out
        have p0 := cell_blk HNA.out 0
        have p1 := cell_blk HNA.out 1
        have p2 := cell_blk HNA.out 2
        have p3 := cell_blk HNA.out 3
        have q0 := cell_blk HNB.out 0
        have q1 := cell_blk HNB.out 1
        have q2 := cell_blk HNB.out 2
        have q3 := cell_blk HNB.out 3
        simp at p0 p1 p2 p3 q0 q1 q2 q3
        refine wp_region_quiet_below (by kernel_rfl) (by kernel_rfl) ?_
        repeat (first | go_big_quiet_step (((go_at_call 41; first | (with_reducible exact Calls.regrown_of (HDA.out _ (HB0.out.trans ((below_regrown _ _ _).mono HB0.out.size)))) | (with_reducible exact Calls.regrown_of (HDB.out _ (HB0.out.trans ((below_regrown _ _ _).mono HB0.out.size))))))) | quiet_step (((go_at_call 41; first | (with_reducible exact Calls.regrown_of (HDA.out _ (HB0.out.trans ((below_regrown _ _ _).mono HB0.out.size)))) | (with_reducible exact Calls.regrown_of (HDB.out _ (HB0.out.trans ((below_regrown _ _ _).mono HB0.out.size))))))))
        refine wpQuiet_nil ?_
        intro _ hw'
        obtain ⟨⟨dq, osq⟩, hw''⟩ := hw'
        subst hw''
        have HB2 := Lib.hid (HB0.out.trans ((below_regrown W1 dq osq).mono HB0.out.size))
        go_wp2_with ((go_at_call 89; (with_reducible refine (HCT.out _ HB2.out).mono ?_); rintro e w' ⟨rfl, rfl⟩))
        go_ret
        exact ⟨rfl, HB2.out⟩
      | false =>
        go_enter Tryz.func62, Tryz.ntmps62
        go_wp2
        generalize ((w.alloc (.cells #[.slice A a.dirs.length c, .string (nm a.name), .int .i64 a.node, .bool a.slash] 92)).alloc (.cells #[.slice (some ⟨bb, ob, none⟩) b.dirs.length c', .string (nm b.name), .int .i64 b.node, .bool false] 92)) = W1 at *
        have l0 := blk_lt HNA.out
        have l1 := blk_lt HNB.out
        have p0 := cell_blk HNA.out 0
        have p1 := cell_blk HNA.out 1
        have p2 := cell_blk HNA.out 2
        have p3 := cell_blk HNA.out 3
        have q0 := cell_blk HNB.out 0
        have q1 := cell_blk HNB.out 1
        have q2 := cell_blk HNB.out 2
        have q3 := cell_blk HNB.out 3
        simp at p0 p1 p2 p3 q0 q1 q2 q3
        refine wp_region_quiet_below (by kernel_rfl) (by kernel_rfl) ?_
        repeat (first | go_big_quiet_step (((go_at_call 41; first | (with_reducible exact Calls.regrown_of (HDA.out _ (HB0.out.trans ((below_regrown _ _ _).mono HB0.out.size)))) | (with_reducible exact Calls.regrown_of (HDB.out _ (HB0.out.trans ((below_regrown _ _ _).mono HB0.out.size))))))) | quiet_step (((go_at_call 41; first | (with_reducible exact Calls.regrown_of (HDA.out _ (HB0.out.trans ((below_regrown _ _ _).mono HB0.out.size)))) | (with_reducible exact Calls.regrown_of (HDB.out _ (HB0.out.trans ((below_regrown _ _ _).mono HB0.out.size))))))))
        refine wpQuiet_nil ?_
        intro _ hw'
        obtain ⟨⟨dq, osq⟩, hw''⟩ := hw'
        subst hw''
        have HB2 := Lib.hid (HB0.out.trans ((below_regrown W1 dq osq).mono HB0.out.size))
        go_wp2_with ((go_at_call 89; (with_reducible refine (HCT.out _ HB2.out).mono ?_); rintro e w' ⟨rfl, rfl⟩))
        go_ret
        exact ⟨rfl, HB2.out⟩
    | true =>
      by_cases hne : es = []
      · subst hne
        go_enter Tryz.func62, Tryz.ntmps62
        go_wp2
        generalize ((w.alloc (.cells #[.slice A a.dirs.length c, .string (nm a.name), .int .i64 a.node, .bool a.slash] 92)).alloc (.cells #[.slice (some ⟨bb, ob, none⟩) b.dirs.length c', .string (nm b.name), .int .i64 b.node, .bool sl] 92)) = W1 at *
        have l0 := blk_lt HNA.out
        have l1 := blk_lt HNB.out
        have p0 := cell_blk HNA.out 0
        have p1 := cell_blk HNA.out 1
        have p2 := cell_blk HNA.out 2
        have p3 := cell_blk HNA.out 3
        have q0 := cell_blk HNB.out 0
        have q1 := cell_blk HNB.out 1
        have q2 := cell_blk HNB.out 2
        have q3 := cell_blk HNB.out 3
        simp at p0 p1 p2 p3 q0 q1 q2 q3
        refine wp_region_quiet_below (by kernel_rfl) (by kernel_rfl) ?_
        repeat (first | go_big_quiet_step (((go_at_call 41; first | (with_reducible exact Calls.regrown_of (HDA.out _ (HB0.out.trans ((below_regrown _ _ _).mono HB0.out.size)))) | (with_reducible exact Calls.regrown_of (HDB.out _ (HB0.out.trans ((below_regrown _ _ _).mono HB0.out.size))))))) | quiet_step (((go_at_call 41; first | (with_reducible exact Calls.regrown_of (HDA.out _ (HB0.out.trans ((below_regrown _ _ _).mono HB0.out.size)))) | (with_reducible exact Calls.regrown_of (HDB.out _ (HB0.out.trans ((below_regrown _ _ _).mono HB0.out.size))))))))
        refine wpQuiet_nil ?_
        intro _ hw'
        obtain ⟨⟨dq, osq⟩, hw''⟩ := hw'
        subst hw''
        have HB2 := Lib.hid (HB0.out.trans ((below_regrown W1 dq osq).mono HB0.out.size))
        have c0 := (HB2.out.cell (p := ⟨fb, 0, none⟩) hfl).trans HF0.out
        have HNB2 := Lib.hid (((below_regrown W1 dq osq).block _ l1).trans HNB.out)
        go_wp2_with ((go_at_call 89; (with_reducible refine (HCT.out _ HB2.out).mono ?_); rintro e w' ⟨rfl, rfl⟩))
        clear p0 p1 p2 p3 q0 q1 q2 q3 l0 l1
        generalize grow (redrawn W1 dq) osq = w3 at *
        have q2 := cell_blk HNB2.out 2
        simp at q2
        have l0 : fb < w3.heap.size := Nat.lt_of_lt_of_le hfl HB2.out.size
        have l1 := blk_lt HNB2.out
        have HE3 := Lib.hid HB2.out.drew
        go_region_with (go_at_call 197; (with_reducible refine (HEN.out _ HE3.out).mono ?_); rintro e w5 ⟨v5, rfl, hi5, hb5⟩; obtain ⟨A5, c5, rfl, -⟩ := ents_len hi5; have HB5 := Lib.hid (HE3.out.trans (hb5.mono HE3.out.size)); clear hi5 hb5)
        all_goals
          go_wp2
          go_ret
          exact ⟨by cases sl <;> rfl, HB5.out⟩
      · have hpos : (0 : Int) < (es.length : Int) := by have := List.length_pos_iff.2 hne; omega
        have HV : Hid (refN true true false sl es = 24) := Lib.hid (by
          cases es with
          | nil => exact absurd rfl hne
          | cons x l => cases sl <;> rfl)
        clear hne
        go_enter Tryz.func62, Tryz.ntmps62
        go_wp2
        generalize ((w.alloc (.cells #[.slice A a.dirs.length c, .string (nm a.name), .int .i64 a.node, .bool a.slash] 92)).alloc (.cells #[.slice (some ⟨bb, ob, none⟩) b.dirs.length c', .string (nm b.name), .int .i64 b.node, .bool sl] 92)) = W1 at *
        have l0 := blk_lt HNA.out
        have l1 := blk_lt HNB.out
        have p0 := cell_blk HNA.out 0
        have p1 := cell_blk HNA.out 1
        have p2 := cell_blk HNA.out 2
        have p3 := cell_blk HNA.out 3
        have q0 := cell_blk HNB.out 0
        have q1 := cell_blk HNB.out 1
        have q2 := cell_blk HNB.out 2
        have q3 := cell_blk HNB.out 3
        simp at p0 p1 p2 p3 q0 q1 q2 q3
        refine wp_region_quiet_below (by kernel_rfl) (by kernel_rfl) ?_
        repeat (first | go_big_quiet_step (((go_at_call 41; first | (with_reducible exact Calls.regrown_of (HDA.out _ (HB0.out.trans ((below_regrown _ _ _).mono HB0.out.size)))) | (with_reducible exact Calls.regrown_of (HDB.out _ (HB0.out.trans ((below_regrown _ _ _).mono HB0.out.size))))))) | quiet_step (((go_at_call 41; first | (with_reducible exact Calls.regrown_of (HDA.out _ (HB0.out.trans ((below_regrown _ _ _).mono HB0.out.size)))) | (with_reducible exact Calls.regrown_of (HDB.out _ (HB0.out.trans ((below_regrown _ _ _).mono HB0.out.size))))))))
        refine wpQuiet_nil ?_
        intro _ hw'
        obtain ⟨⟨dq, osq⟩, hw''⟩ := hw'
        subst hw''
        have HB2 := Lib.hid (HB0.out.trans ((below_regrown W1 dq osq).mono HB0.out.size))
        have c0 := (HB2.out.cell (p := ⟨fb, 0, none⟩) hfl).trans HF0.out
        have HNB2 := Lib.hid (((below_regrown W1 dq osq).block _ l1).trans HNB.out)
        go_wp2_with ((go_at_call 89; (with_reducible refine (HCT.out _ HB2.out).mono ?_); rintro e w' ⟨rfl, rfl⟩))
        clear p0 p1 p2 p3 q0 q1 q2 q3 l0 l1
        generalize grow (redrawn W1 dq) osq = w3 at *
        have q2 := cell_blk HNB2.out 2
        simp at q2
        have l0 : fb < w3.heap.size := Nat.lt_of_lt_of_le hfl HB2.out.size
        have l1 := blk_lt HNB2.out
        have HE3 := Lib.hid HB2.out.drew
        go_region_with (go_at_call 197; (with_reducible refine (HEN.out _ HE3.out).mono ?_); rintro e w5 ⟨v5, rfl, hi5, hb5⟩; obtain ⟨A5, c5, rfl, -⟩ := ents_len hi5; have HB5 := Lib.hid (HE3.out.trans (hb5.mono HE3.out.size)); clear hi5 hb5)
        all_goals
          go_wp2
          go_ret
          exact ⟨by rw [HV.out]; rfl, HB5.out⟩
set_option maxRecDepth 100000 in
set_option maxHeartbeats 4000000 in
theorem rename_any {k : Nat} {f : Fs} (fb db mb : Nat) (p q : ByteArray) (w : World) (h : Sys w fb db mb k f) (hp : p.size ≤ maxLen) (hq : q.size ≤ maxLen) (hkk : k < 800000) :
    Calls Tryz.prog 24 #[.pointer (some ⟨fb, 0, none⟩), .string p, .string q] w (WroteP fb db mb w (renameF f p.data.toList q.data.toList)) := by
  have hi := namedThere_any fb db mb p w h hp
  have hj := fun W (hW : Below w.heap.size w W) => named_any fb db mb q W (h.below hW) hq
  have HS := Lib.hid h
  unfold WroteP renameF
  cases hr : namedThereF f p.data.toList with
  | error x =>
    rw [hr] at hi
    unfold GonP at hi
    dsimp only at hi ⊢
    have HI := Lib.hid hi
    clear hi hj hr h hp hq hkk
    go_enter Tryz.func24, Tryz.ntmps24
    go_wp2_with (go_at_call 49; (with_reducible refine HI.out.mono ?_); rintro e w2 ⟨⟨A, n, c, nb, id, sl, rfl⟩, hx0, hb2⟩; have x1 : (x == 0) = false := beq_eq_false_iff_ne.2 hx0; have x2 : (x != 0) = true := bne_iff_ne.2 hx0; have HBA := Lib.hid (hb2.alloc hb2.size (.cells #[.slice A n c, .string nb, .int .i64 id, .bool sl] 92)); clear hx0 hb2)
    go_ret
    exact ⟨rfl, HS.out.live.below HBA.out, kept_of_below HBA.out⟩
  | ok a =>
    obtain ⟨ha, hn1, hn2, hn3, hn4⟩ := namedThere_ok h.ok hr
    rw [hr] at hi
    cases hr2 : namedF f q.data.toList with
    | error x =>
      rw [hr2] at hj
      unfold GonP at hi hj
      dsimp only at hi hj ⊢
      have HI := Lib.hid hi
      have HJ := Lib.hid hj
      clear hi hj hr hr2 h hp hq hkk ha hn1 hn2 hn3 hn4
      go_enter Tryz.func24, Tryz.ntmps24
      go_wp2_with (first | (go_at_call 49; (with_reducible refine HI.out.mono ?_); rintro e w2 ⟨v, rfl, hi2, hb2⟩; unfold plV; obtain ⟨A, c, rfl⟩ := hi2.len; have HBA := Lib.hid (hb2.alloc hb2.size (.cells #[.slice A a.dirs.length c, .string (nm a.name), .int .i64 a.node, .bool a.slash] 92)); have HIA := Lib.hid ((hi2.below ((Below.refl _ _).alloc (Nat.le_refl _) (.cells #[.slice A a.dirs.length c, .string (nm a.name), .int .i64 a.node, .bool a.slash] 92))).more (show w2.heap.size ≤ (w2.alloc (.cells #[.slice A a.dirs.length c, .string (nm a.name), .int .i64 a.node, .bool a.slash] 92)).heap.size by simp)); have HBX := Lib.hid (heap_alloc_new w2 (.cells #[.slice A a.dirs.length c, .string (nm a.name), .int .i64 a.node, .bool a.slash] 92)); clear hi2 hb2) | (go_at_call 61; (with_reducible refine (HJ.out _ HBA.out).mono ?_); rintro e w3 ⟨⟨A', n', c', nb', id', sl', rfl⟩, hx0, hb3⟩; have x1 : (x == 0) = false := beq_eq_false_iff_ne.2 hx0; have x2 : (x != 0) = true := bne_iff_ne.2 hx0; have HBB := Lib.hid (HBA.out.trans ((hb3.alloc hb3.size (.cells #[.slice A' n' c', .string nb', .int .i64 id', .bool sl'] 92)).mono HBA.out.size)); clear hx0 hb3))
      go_ret
      exact ⟨rfl, HS.out.live.below HBB.out, kept_of_below HBB.out⟩
    | ok b =>
      obtain ⟨hb, hbn⟩ := named_ok h.ok hr2
      rw [hr2] at hj
      unfold GonP at hi hj
      dsimp only at hi hj ⊢
      have HI := Lib.hid hi
      have HJ := Lib.hid hj
      by_cases hab : a.node = b.node
      · rw [if_pos hab]
        dsimp only
        have t1 : (a.node == b.node) = true := by simp [hab]
        clear hi hj hr hr2 h hp hq hkk ha hn1 hn2 hn3 hn4 hb hbn hab
        go_enter Tryz.func24, Tryz.ntmps24
        go_wp2_with (first | (go_at_call 49; (with_reducible refine HI.out.mono ?_); rintro e w2 ⟨v, rfl, hi2, hb2⟩; unfold plV; obtain ⟨A, c, rfl⟩ := hi2.len; have HBA := Lib.hid (hb2.alloc hb2.size (.cells #[.slice A a.dirs.length c, .string (nm a.name), .int .i64 a.node, .bool a.slash] 92)); have HIA := Lib.hid ((hi2.below ((Below.refl _ _).alloc (Nat.le_refl _) (.cells #[.slice A a.dirs.length c, .string (nm a.name), .int .i64 a.node, .bool a.slash] 92))).more (show w2.heap.size ≤ (w2.alloc (.cells #[.slice A a.dirs.length c, .string (nm a.name), .int .i64 a.node, .bool a.slash] 92)).heap.size by simp)); have HBX := Lib.hid (heap_alloc_new w2 (.cells #[.slice A a.dirs.length c, .string (nm a.name), .int .i64 a.node, .bool a.slash] 92)); clear hi2 hb2) | (go_at_call 61; (with_reducible refine (HJ.out _ HBA.out).mono ?_); rintro e w3 ⟨v', rfl, hi3, hb3⟩; unfold plV; obtain ⟨A', c', rfl⟩ := hi3.len; have hb4 := hb3.alloc hb3.size (.cells #[.slice A' b.dirs.length c', .string (nm b.name), .int .i64 b.node, .bool b.slash] 92); have HBB := Lib.hid (HBA.out.trans (hb4.mono HBA.out.size)); have HIB := Lib.hid ((hi3.below ((Below.refl _ _).alloc (Nat.le_refl _) (.cells #[.slice A' b.dirs.length c', .string (nm b.name), .int .i64 b.node, .bool b.slash] 92))).more (show w3.heap.size ≤ (w3.alloc (.cells #[.slice A' b.dirs.length c', .string (nm b.name), .int .i64 b.node, .bool b.slash] 92)).heap.size by simp)); have HIA3 := Lib.hid ((HIA.out.below hb4).more hb4.size); have HXA3 := Lib.hid ((hb4.block _ (blk_lt HBX.out)).trans HBX.out); have HXB3 := Lib.hid (heap_alloc_new w3 (.cells #[.slice A' b.dirs.length c', .string (nm b.name), .int .i64 b.node, .bool b.slash] 92)); have HSB := Lib.hid (HS.out.below HBB.out); clear hi3 hb3 hb4; have p0 := cell_blk HXA3.out 0; have p1 := cell_blk HXA3.out 1; have p2 := cell_blk HXA3.out 2; have p3 := cell_blk HXA3.out 3; simp at p0 p1 p2 p3))
        go_ret
        exact ⟨rfl, HS.out.live.below HBB.out, kept_of_below HBB.out⟩
      · rw [if_neg hab]
        have t1 : (a.node == b.node) = false := by simpa using hab
        have hrf := fun W A A' c c' (hS : Sys W fb db mb k f) hIa hIb => refuse_any fb db mb a b A A' c c' W hS ha hb hIa hIb hkk
        by_cases hz : refuseF f a b ≠ 0
        · rw [if_pos hz]
          dsimp only
          have HRF := Lib.hid hrf
          have x2 : (refuseF f a b != 0) = true := bne_iff_ne.2 hz
          generalize refuseF f a b = x at *
          clear hi hj hr hr2 h hp hq hkk ha hn1 hn2 hn3 hn4 hb hbn hab hrf hz
          go_enter Tryz.func24, Tryz.ntmps24
          go_wp2_with (first | (go_at_call 49; (with_reducible refine HI.out.mono ?_); rintro e w2 ⟨v, rfl, hi2, hb2⟩; unfold plV; obtain ⟨A, c, rfl⟩ := hi2.len; have HBA := Lib.hid (hb2.alloc hb2.size (.cells #[.slice A a.dirs.length c, .string (nm a.name), .int .i64 a.node, .bool a.slash] 92)); have HIA := Lib.hid ((hi2.below ((Below.refl _ _).alloc (Nat.le_refl _) (.cells #[.slice A a.dirs.length c, .string (nm a.name), .int .i64 a.node, .bool a.slash] 92))).more (show w2.heap.size ≤ (w2.alloc (.cells #[.slice A a.dirs.length c, .string (nm a.name), .int .i64 a.node, .bool a.slash] 92)).heap.size by simp)); have HBX := Lib.hid (heap_alloc_new w2 (.cells #[.slice A a.dirs.length c, .string (nm a.name), .int .i64 a.node, .bool a.slash] 92)); clear hi2 hb2) | (go_at_call 61; (with_reducible refine (HJ.out _ HBA.out).mono ?_); rintro e w3 ⟨v', rfl, hi3, hb3⟩; unfold plV; obtain ⟨A', c', rfl⟩ := hi3.len; have hb4 := hb3.alloc hb3.size (.cells #[.slice A' b.dirs.length c', .string (nm b.name), .int .i64 b.node, .bool b.slash] 92); have HBB := Lib.hid (HBA.out.trans (hb4.mono HBA.out.size)); have HIB := Lib.hid ((hi3.below ((Below.refl _ _).alloc (Nat.le_refl _) (.cells #[.slice A' b.dirs.length c', .string (nm b.name), .int .i64 b.node, .bool b.slash] 92))).more (show w3.heap.size ≤ (w3.alloc (.cells #[.slice A' b.dirs.length c', .string (nm b.name), .int .i64 b.node, .bool b.slash] 92)).heap.size by simp)); have HIA3 := Lib.hid ((HIA.out.below hb4).more hb4.size); have HXA3 := Lib.hid ((hb4.block _ (blk_lt HBX.out)).trans HBX.out); have HXB3 := Lib.hid (heap_alloc_new w3 (.cells #[.slice A' b.dirs.length c', .string (nm b.name), .int .i64 b.node, .bool b.slash] 92)); have HSB := Lib.hid (HS.out.below HBB.out); clear hi3 hb3 hb4; have p0 := cell_blk HXA3.out 0; have p1 := cell_blk HXA3.out 1; have p2 := cell_blk HXA3.out 2; have p3 := cell_blk HXA3.out 3; simp at p0 p1 p2 p3) | (go_at_call 62; (with_reducible refine (HRF.out _ _ _ _ _ HSB.out HIA3.out HIB.out).mono ?_); rintro e w5 ⟨rfl, hb5⟩; have HB5 := Lib.hid (HBB.out.trans (hb5.mono HBB.out.size)); have HS5 := Lib.hid (HSB.out.below hb5); have HIA5 := Lib.hid ((HIA3.out.below hb5).more hb5.size); have HIB5 := Lib.hid ((HIB.out.below hb5).more hb5.size); have HXA5 := Lib.hid ((hb5.block _ (blk_lt HXA3.out)).trans HXA3.out); have HXB5 := Lib.hid ((hb5.block _ (blk_lt HXB3.out)).trans HXB3.out); clear hb5 p0 p1 p2 p3))
          go_ret
          exact ⟨rfl, HS.out.live.below HB5.out, kept_of_below HB5.out⟩
        · rw [if_neg hz]
          dsimp only
          have hz : refuseF f a b = 0 := Classical.byContradiction hz
          rw [hz] at hrf
          have HRF := Lib.hid hrf
          have hT0 : FsOk k (tickF f) := h.ok.tick
          have HT := Lib.hid (fun W (hW : Sys W fb db mb k f) => tick_any fb db mb f W hW.live)
          have HTK := Lib.hid hT0
          have k1 := hT0.bindIn (a := a) ha.in 0 (.inl rfl)
          have kk : ∀ id, (nod (bindF (tickF f) a 0).t.nodes id).kind = (nod f.t.nodes id).kind := fun id => kind_bindF hT0 (a := a) ha.in 0 id
          have b1 : AtIn (bindF (tickF f) a 0).t b := AtIn.of_kinds (f := f) (g := bindF (tickF f) a 0) hb.in kk
          have k2 := k1.bindIn b1 a.node (.inr ⟨hn3, by rw [kk]; exact hn4⟩)
          have h64 := ha.node64 h.ok
          have h64b := hb.node64 h.ok
          have hbf1 := fun W A c (hS : Sys W fb db mb k (tickF f)) (hI : IntsIn W W.heap.size (.slice A a.dirs.length c) a.dirs) => bindF_any fb db mb a _ 0 W hS ha.in hI i64_0 (by omega)
          have hbf2 := fun W A c (hS : Sys W fb db mb (k + 1) (bindF (tickF f) a 0)) (hI : IntsIn W W.heap.size (.slice A b.dirs.length c) b.dirs) => bindF_any fb db mb b _ a.node W hS b1 hI h64 (by omega)
          unfold plV at hbf1 hbf2
          have HBF1 := Lib.hid hbf1
          have HBF2 := Lib.hid hbf2
          have HOK7 := Lib.hid k1
          have HFG := Lib.hid (fun W (hW : Live W fb db mb (bindF (bindF (tickF f) a 0) b a.node)) => forget_any fb db mb (bindF (bindF (tickF f) a 0) b a.node) b.node W hW k2.rise h64b (by have := k2.len; omega) (fun n hn => by have := k2.cnt n hn; omega))
          by_cases hb0 : b.node = 0
          · rw [if_neg (fun hh => hh hb0)]
            have t2 : (b.node != 0) = false := by simp [hb0]
            clear hi hj hr hr2 h hp hq hkk ha hn1 hn2 hn3 hn4 hb hbn hab hrf hz hT0 k1 kk b1 k2 h64 h64b hbf1 hbf2 HFG hb0
            go_enter Tryz.func24, Tryz.ntmps24
            go_wp2_with (first | (go_at_call 49; (with_reducible refine HI.out.mono ?_); rintro e w2 ⟨v, rfl, hi2, hb2⟩; unfold plV; obtain ⟨A, c, rfl⟩ := hi2.len; have HBA := Lib.hid (hb2.alloc hb2.size (.cells #[.slice A a.dirs.length c, .string (nm a.name), .int .i64 a.node, .bool a.slash] 92)); have HIA := Lib.hid ((hi2.below ((Below.refl _ _).alloc (Nat.le_refl _) (.cells #[.slice A a.dirs.length c, .string (nm a.name), .int .i64 a.node, .bool a.slash] 92))).more (show w2.heap.size ≤ (w2.alloc (.cells #[.slice A a.dirs.length c, .string (nm a.name), .int .i64 a.node, .bool a.slash] 92)).heap.size by simp)); have HBX := Lib.hid (heap_alloc_new w2 (.cells #[.slice A a.dirs.length c, .string (nm a.name), .int .i64 a.node, .bool a.slash] 92)); clear hi2 hb2) | (go_at_call 61; (with_reducible refine (HJ.out _ HBA.out).mono ?_); rintro e w3 ⟨v', rfl, hi3, hb3⟩; unfold plV; obtain ⟨A', c', rfl⟩ := hi3.len; have hb4 := hb3.alloc hb3.size (.cells #[.slice A' b.dirs.length c', .string (nm b.name), .int .i64 b.node, .bool b.slash] 92); have HBB := Lib.hid (HBA.out.trans (hb4.mono HBA.out.size)); have HIB := Lib.hid ((hi3.below ((Below.refl _ _).alloc (Nat.le_refl _) (.cells #[.slice A' b.dirs.length c', .string (nm b.name), .int .i64 b.node, .bool b.slash] 92))).more (show w3.heap.size ≤ (w3.alloc (.cells #[.slice A' b.dirs.length c', .string (nm b.name), .int .i64 b.node, .bool b.slash] 92)).heap.size by simp)); have HIA3 := Lib.hid ((HIA.out.below hb4).more hb4.size); have HXA3 := Lib.hid ((hb4.block _ (blk_lt HBX.out)).trans HBX.out); have HXB3 := Lib.hid (heap_alloc_new w3 (.cells #[.slice A' b.dirs.length c', .string (nm b.name), .int .i64 b.node, .bool b.slash] 92)); have HSB := Lib.hid (HS.out.below HBB.out); clear hi3 hb3 hb4; have p0 := cell_blk HXA3.out 0; have p1 := cell_blk HXA3.out 1; have p2 := cell_blk HXA3.out 2; have p3 := cell_blk HXA3.out 3; simp at p0 p1 p2 p3) | (go_at_call 62; (with_reducible refine (HRF.out _ _ _ _ _ HSB.out HIA3.out HIB.out).mono ?_); rintro e w5 ⟨rfl, hb5⟩; have HB5 := Lib.hid (HBB.out.trans (hb5.mono HBB.out.size)); have HS5 := Lib.hid (HSB.out.below hb5); have HIA5 := Lib.hid ((HIA3.out.below hb5).more hb5.size); have HIB5 := Lib.hid ((HIB.out.below hb5).more hb5.size); have HXA5 := Lib.hid ((hb5.block _ (blk_lt HXA3.out)).trans HXA3.out); have HXB5 := Lib.hid ((hb5.block _ (blk_lt HXB3.out)).trans HXB3.out); clear hb5 p0 p1 p2 p3) | (go_at_call 54; (with_reducible refine (HT.out _ HS5.out).mono ?_); rintro e w6 ⟨rfl, hl6, hk6⟩; have HK6 := Lib.hid ((kept_of_below HB5.out).trans hk6); have HS6 := Lib.hid (HS5.out.wrote hl6 hk6 HTK.out); have HIA6 := Lib.hid (HIA5.out.wrote HS5.out.live hk6); have HIB6 := Lib.hid (HIB5.out.wrote HS5.out.live hk6); have HXA6 := Lib.hid (hk6.at HXA5.out (HS5.out.live.not3 (OfType.of HXA5.out) (by decide) (by decide))); have HXB6 := Lib.hid (hk6.at HXB5.out (HS5.out.live.not3 (OfType.of HXB5.out) (by decide) (by decide))); clear hl6 hk6; have p0 := cell_blk HXA6.out 0; have p1 := cell_blk HXA6.out 1; have p2 := cell_blk HXA6.out 2; have p3 := cell_blk HXA6.out 3; simp at p0 p1 p2 p3) | (go_at_call 55; (with_reducible refine (HBF1.out _ _ _ HS6.out HIA6.out).mono ?_); rintro e w7 ⟨rfl, hl7, hk7⟩; have HK7 := Lib.hid (HK6.out.trans hk7); have HS7 := Lib.hid (HS6.out.wrote hl7 hk7 HOK7.out); have HIB7 := Lib.hid (HIB6.out.wrote HS6.out.live hk7); have HXA7 := Lib.hid (hk7.at HXA6.out (HS6.out.live.not3 (OfType.of HXA6.out) (by decide) (by decide))); have HXB7 := Lib.hid (hk7.at HXB6.out (HS6.out.live.not3 (OfType.of HXB6.out) (by decide) (by decide))); clear hl7 hk7 p0 p1 p2 p3; have p2 := cell_blk HXA7.out 2; have q0 := cell_blk HXB7.out 0; have q1 := cell_blk HXB7.out 1; have q2 := cell_blk HXB7.out 2; have q3 := cell_blk HXB7.out 3; simp at p2 q0 q1 q2 q3) | (go_at_call 55; (with_reducible refine (HBF2.out _ _ _ HS7.out HIB7.out).mono ?_); rintro e w8 ⟨rfl, hl8, hk8⟩; have HK8 := Lib.hid (HK7.out.trans hk8); have HL8 := Lib.hid hl8; have HXB8 := Lib.hid (hk8.at HXB7.out (HS7.out.live.not3 (OfType.of HXB7.out) (by decide) (by decide))); clear hl8 hk8 p2 q0 q1 q2 q3; have q2 := cell_blk HXB8.out 2; simp at q2))
            go_ret
            exact ⟨rfl, HL8.out, HK8.out⟩
          · rw [if_pos hb0]
            have t2 : (b.node != 0) = true := by simp [hb0]
            clear hi hj hr hr2 h hp hq hkk ha hn1 hn2 hn3 hn4 hb hbn hab hrf hz hT0 k1 kk b1 k2 h64 h64b hbf1 hbf2 hb0
            go_enter Tryz.func24, Tryz.ntmps24
            go_wp2_with (first | (go_at_call 49; (with_reducible refine HI.out.mono ?_); rintro e w2 ⟨v, rfl, hi2, hb2⟩; unfold plV; obtain ⟨A, c, rfl⟩ := hi2.len; have HBA := Lib.hid (hb2.alloc hb2.size (.cells #[.slice A a.dirs.length c, .string (nm a.name), .int .i64 a.node, .bool a.slash] 92)); have HIA := Lib.hid ((hi2.below ((Below.refl _ _).alloc (Nat.le_refl _) (.cells #[.slice A a.dirs.length c, .string (nm a.name), .int .i64 a.node, .bool a.slash] 92))).more (show w2.heap.size ≤ (w2.alloc (.cells #[.slice A a.dirs.length c, .string (nm a.name), .int .i64 a.node, .bool a.slash] 92)).heap.size by simp)); have HBX := Lib.hid (heap_alloc_new w2 (.cells #[.slice A a.dirs.length c, .string (nm a.name), .int .i64 a.node, .bool a.slash] 92)); clear hi2 hb2) | (go_at_call 61; (with_reducible refine (HJ.out _ HBA.out).mono ?_); rintro e w3 ⟨v', rfl, hi3, hb3⟩; unfold plV; obtain ⟨A', c', rfl⟩ := hi3.len; have hb4 := hb3.alloc hb3.size (.cells #[.slice A' b.dirs.length c', .string (nm b.name), .int .i64 b.node, .bool b.slash] 92); have HBB := Lib.hid (HBA.out.trans (hb4.mono HBA.out.size)); have HIB := Lib.hid ((hi3.below ((Below.refl _ _).alloc (Nat.le_refl _) (.cells #[.slice A' b.dirs.length c', .string (nm b.name), .int .i64 b.node, .bool b.slash] 92))).more (show w3.heap.size ≤ (w3.alloc (.cells #[.slice A' b.dirs.length c', .string (nm b.name), .int .i64 b.node, .bool b.slash] 92)).heap.size by simp)); have HIA3 := Lib.hid ((HIA.out.below hb4).more hb4.size); have HXA3 := Lib.hid ((hb4.block _ (blk_lt HBX.out)).trans HBX.out); have HXB3 := Lib.hid (heap_alloc_new w3 (.cells #[.slice A' b.dirs.length c', .string (nm b.name), .int .i64 b.node, .bool b.slash] 92)); have HSB := Lib.hid (HS.out.below HBB.out); clear hi3 hb3 hb4; have p0 := cell_blk HXA3.out 0; have p1 := cell_blk HXA3.out 1; have p2 := cell_blk HXA3.out 2; have p3 := cell_blk HXA3.out 3; simp at p0 p1 p2 p3) | (go_at_call 62; (with_reducible refine (HRF.out _ _ _ _ _ HSB.out HIA3.out HIB.out).mono ?_); rintro e w5 ⟨rfl, hb5⟩; have HB5 := Lib.hid (HBB.out.trans (hb5.mono HBB.out.size)); have HS5 := Lib.hid (HSB.out.below hb5); have HIA5 := Lib.hid ((HIA3.out.below hb5).more hb5.size); have HIB5 := Lib.hid ((HIB.out.below hb5).more hb5.size); have HXA5 := Lib.hid ((hb5.block _ (blk_lt HXA3.out)).trans HXA3.out); have HXB5 := Lib.hid ((hb5.block _ (blk_lt HXB3.out)).trans HXB3.out); clear hb5 p0 p1 p2 p3) | (go_at_call 54; (with_reducible refine (HT.out _ HS5.out).mono ?_); rintro e w6 ⟨rfl, hl6, hk6⟩; have HK6 := Lib.hid ((kept_of_below HB5.out).trans hk6); have HS6 := Lib.hid (HS5.out.wrote hl6 hk6 HTK.out); have HIA6 := Lib.hid (HIA5.out.wrote HS5.out.live hk6); have HIB6 := Lib.hid (HIB5.out.wrote HS5.out.live hk6); have HXA6 := Lib.hid (hk6.at HXA5.out (HS5.out.live.not3 (OfType.of HXA5.out) (by decide) (by decide))); have HXB6 := Lib.hid (hk6.at HXB5.out (HS5.out.live.not3 (OfType.of HXB5.out) (by decide) (by decide))); clear hl6 hk6; have p0 := cell_blk HXA6.out 0; have p1 := cell_blk HXA6.out 1; have p2 := cell_blk HXA6.out 2; have p3 := cell_blk HXA6.out 3; simp at p0 p1 p2 p3) | (go_at_call 55; (with_reducible refine (HBF1.out _ _ _ HS6.out HIA6.out).mono ?_); rintro e w7 ⟨rfl, hl7, hk7⟩; have HK7 := Lib.hid (HK6.out.trans hk7); have HS7 := Lib.hid (HS6.out.wrote hl7 hk7 HOK7.out); have HIB7 := Lib.hid (HIB6.out.wrote HS6.out.live hk7); have HXA7 := Lib.hid (hk7.at HXA6.out (HS6.out.live.not3 (OfType.of HXA6.out) (by decide) (by decide))); have HXB7 := Lib.hid (hk7.at HXB6.out (HS6.out.live.not3 (OfType.of HXB6.out) (by decide) (by decide))); clear hl7 hk7 p0 p1 p2 p3; have p2 := cell_blk HXA7.out 2; have q0 := cell_blk HXB7.out 0; have q1 := cell_blk HXB7.out 1; have q2 := cell_blk HXB7.out 2; have q3 := cell_blk HXB7.out 3; simp at p2 q0 q1 q2 q3) | (go_at_call 55; (with_reducible refine (HBF2.out _ _ _ HS7.out HIB7.out).mono ?_); rintro e w8 ⟨rfl, hl8, hk8⟩; have HK8 := Lib.hid (HK7.out.trans hk8); have HL8 := Lib.hid hl8; have HXB8 := Lib.hid (hk8.at HXB7.out (HS7.out.live.not3 (OfType.of HXB7.out) (by decide) (by decide))); clear hl8 hk8 p2 q0 q1 q2 q3; have q2 := cell_blk HXB8.out 2; simp at q2) | (go_at_call 63; (with_reducible refine (HFG.out _ HL8.out).mono ?_); rintro e w9 ⟨rfl, hl9, hk9⟩; have HK9 := Lib.hid (HK8.out.trans hk9); have HL9 := Lib.hid hl9; clear hl9 hk9))
            go_ret
            exact ⟨rfl, HL9.out, HK9.out⟩
end Go.Proofs.YtpicgkoclbpjpaaGreatDoor
end

section
namespace Go.Proofs.YtpicgkoclbpjpaaGreatDoor
open Go.RowKit Go.WideShapes Go.ChangeShapes
set_option linter.unusedVariables false
set_option maxRecDepth 100000
variable {H : Type} {enc : TypeId × Value → H} {W : World}
theorem act_open {b0 : Nat} {v : Value} {d : DataW H} {p : List MemPlace} (hv : Value.okWide Tryz.prog W .any b0 78 v) (h : DataW.Trod enc Tryz.prog W 0 (fun _ => true) true 78 v d p) :
    ∃ (kind how : Int) (pa tx : ByteArray), v = .agg #[.int .i64 kind, .string pa, .string tx, .int .i64 how] := by
  obtain ⟨cs, rfl, hsz⟩ := okWide_struct Tryz.underlying78 hv
  obtain ⟨l⟩ := cs
  have z24 : Tryz.prog.cellsOf 78 = 4 := by kernel_rfl
  rw [z24] at hsz
  have hsz : l.length = 4 := by simpa using hsz
  obtain ⟨c0, c1, c2, c3, rfl⟩ := four_of hsz
  obtain ⟨fuel, hf⟩ := h
  obtain ⟨ys, n', _, _, _, hyl, hg⟩ := DataW.trod_struct Tryz.underlying78 hf
  obtain ⟨y0, y1, y2, y3, rfl⟩ := four_of hyl
  have z3 : Tryz.prog.cellsOf 3 = 1 := by kernel_rfl
  have z9 : Tryz.prog.cellsOf 9 = 1 := by kernel_rfl
  have i0 : DataW.trod enc Tryz.prog W 0 (fun _ => true) true n' 3 (([c0, c1, c2, c3].drop 0).take (Tryz.prog.cellsOf 3)) = some y0 := hg 0 _ rfl
  have i1 : DataW.trod enc Tryz.prog W 0 (fun _ => true) true n' 9 (([c0, c1, c2, c3].drop 1).take (Tryz.prog.cellsOf 9)) = some y1 := hg 1 _ rfl
  have i2 : DataW.trod enc Tryz.prog W 0 (fun _ => true) true n' 9 (([c0, c1, c2, c3].drop 2).take (Tryz.prog.cellsOf 9)) = some y2 := hg 2 _ rfl
  have i3 : DataW.trod enc Tryz.prog W 0 (fun _ => true) true n' 3 (([c0, c1, c2, c3].drop 3).take (Tryz.prog.cellsOf 3)) = some y3 := hg 3 _ rfl
  rw [z3] at i0 i3
  rw [z9] at i1 i2
  obtain ⟨k0, e0, _, _⟩ := DataW.trod_int Tryz.underlying3 i0
  obtain ⟨k3, e3, _, _⟩ := DataW.trod_int Tryz.underlying3 i3
  obtain ⟨s1, e1, _, _⟩ := DataW.trod_string Tryz.underlying9 i1
  obtain ⟨s2, e2, _, _⟩ := DataW.trod_string Tryz.underlying9 i2
  obtain rfl : c0 = .int .i64 k0 := (List.cons.inj e0).1
  obtain rfl : c3 = .int .i64 k3 := (List.cons.inj e3).1
  obtain rfl : c1 = .string s1 := (List.cons.inj e1).1
  obtain rfl : c2 = .string s2 := (List.cons.inj e2).1
  exact ⟨k0, k3, s1, s2, rfl⟩
end Go.Proofs.YtpicgkoclbpjpaaGreatDoor
end

section
namespace Go.Proofs.YtpicgkoclbpjpaaGreatDoor
open Go.RowKit Go.WideShapes Go.ChangeShapes
open PathM TreeM
set_option linter.unusedVariables false
set_option maxRecDepth 100000
/-- An act as it lies in memory: kind, path, text, how. -/
structure ActV where
  kind : Int
  path : ByteArray
  text : ByteArray
  how : Int
deriving Inhabited
def actAt (l : List ActV) (k : Nat) : ActV := l.getD k ⟨0, ByteArray.empty, ByteArray.empty, 0⟩
def ActsIn (w : World) (B : Nat) (v : Value) (l : List ActV) : Prop :=
  ∃ A c, v = .slice A l.length c ∧ l.length ≤ c ∧
    (l ≠ [] → ∃ b off, A = some ⟨b, off, none⟩ ∧ b < B ∧ ∀ k, k < l.length → w.cell? ⟨b, off + k * 4, none⟩ = some (.int .i64 (actAt l k).kind) ∧ w.cell? ⟨b, off + k * 4 + 1, none⟩ = some (.string (actAt l k).path) ∧ w.cell? ⟨b, off + k * 4 + 2, none⟩ = some (.string (actAt l k).text) ∧ w.cell? ⟨b, off + k * 4 + 3, none⟩ = some (.int .i64 (actAt l k).how))
theorem ActsIn.below {w w' : World} {B : Nat} {v : Value} {l : List ActV} (h : ActsIn w B v l) (hb : Below B w w') : ActsIn w' B v l := by
  obtain ⟨A, c, h1, h2, h3⟩ := h
  refine ⟨A, c, h1, h2, fun hne => ?_⟩
  obtain ⟨b, off, h4, h5, h6⟩ := h3 hne
  refine ⟨b, off, h4, h5, fun k hk => ?_⟩
  obtain ⟨g0, g1, g2, g3⟩ := h6 k hk
  exact ⟨(hb.cell (p := ⟨b, off + k * 4, none⟩) h5).trans g0, (hb.cell (p := ⟨b, off + k * 4 + 1, none⟩) h5).trans g1, (hb.cell (p := ⟨b, off + k * 4 + 2, none⟩) h5).trans g2, (hb.cell (p := ⟨b, off + k * 4 + 3, none⟩) h5).trans g3⟩
theorem ActsIn.more {w : World} {B B' : Nat} {v : Value} {l : List ActV} (h : ActsIn w B v l) (hB : B ≤ B') : ActsIn w B' v l := by
  obtain ⟨A, c, h1, h2, h3⟩ := h
  refine ⟨A, c, h1, h2, fun hne => ?_⟩
  obtain ⟨b, off, h4, h5, h6⟩ := h3 hne
  exact ⟨b, off, h4, by omega, h6⟩
theorem ActsIn.len {w : World} {B : Nat} {v : Value} {l : List ActV} (h : ActsIn w B v l) : ∃ A c, v = .slice A l.length c := by obtain ⟨A, c, h, _⟩ := h; exact ⟨A, c, h⟩
theorem ActsIn.at {w : World} {B : Nat} {A : Option Addr} {n c : Nat} {l : List ActV} (h : ActsIn w B (.slice A n c) l) {k : Nat} (hk : k < l.length) : ∃ b off, A = some ⟨b, off, none⟩ ∧ b < B ∧ w.cell? ⟨b, off + k * 4, none⟩ = some (.int .i64 (actAt l k).kind) ∧ w.cell? ⟨b, off + k * 4 + 1, none⟩ = some (.string (actAt l k).path) ∧ w.cell? ⟨b, off + k * 4 + 2, none⟩ = some (.string (actAt l k).text) ∧ w.cell? ⟨b, off + k * 4 + 3, none⟩ = some (.int .i64 (actAt l k).how) := by
  obtain ⟨A', c', h1, _, h3⟩ := h
  injection h1 with h1 _ _
  obtain ⟨b, off, h4, h5, h6⟩ := h3 (fun e => by rw [e] at hk; cases hk)
  exact ⟨b, off, h1.trans h4, h5, h6 k hk⟩
section
variable {H : Type} {enc : TypeId × Value → H} {W : World}
theorem actcell_open {fuel : Nat} {cs : List Value} {x : DataW H × List MemPlace} (h : DataW.trod enc Tryz.prog W 0 (fun _ => true) true fuel 78 cs = some x) :
    ∃ e : ActV, cs = [.int .i64 e.kind, .string e.path, .string e.text, .int .i64 e.how] := by
  obtain ⟨xs, n, _, rfl, hlen, hxl, hg⟩ := DataW.trod_struct Tryz.underlying78 h
  obtain ⟨c0, c1, c2, c3, rfl⟩ := four_of (hlen.trans (by kernel_rfl))
  obtain ⟨y0, y1, y2, y3, rfl⟩ := four_of hxl
  have z3 : Tryz.prog.cellsOf 3 = 1 := by kernel_rfl
  have z9 : Tryz.prog.cellsOf 9 = 1 := by kernel_rfl
  have i0 : DataW.trod enc Tryz.prog W 0 (fun _ => true) true n 3 (([c0, c1, c2, c3].drop 0).take (Tryz.prog.cellsOf 3)) = some y0 := hg 0 _ rfl
  have i1 : DataW.trod enc Tryz.prog W 0 (fun _ => true) true n 9 (([c0, c1, c2, c3].drop 1).take (Tryz.prog.cellsOf 9)) = some y1 := hg 1 _ rfl
  have i2 : DataW.trod enc Tryz.prog W 0 (fun _ => true) true n 9 (([c0, c1, c2, c3].drop 2).take (Tryz.prog.cellsOf 9)) = some y2 := hg 2 _ rfl
  have i3 : DataW.trod enc Tryz.prog W 0 (fun _ => true) true n 3 (([c0, c1, c2, c3].drop 3).take (Tryz.prog.cellsOf 3)) = some y3 := hg 3 _ rfl
  rw [z3] at i0 i3
  rw [z9] at i1 i2
  obtain ⟨k0, e0, _, _⟩ := DataW.trod_int Tryz.underlying3 i0
  obtain ⟨k3, e3, _, _⟩ := DataW.trod_int Tryz.underlying3 i3
  obtain ⟨s1, e1, _, _⟩ := DataW.trod_string Tryz.underlying9 i1
  obtain ⟨s2, e2, _, _⟩ := DataW.trod_string Tryz.underlying9 i2
  obtain rfl : c0 = .int .i64 k0 := (List.cons.inj e0).1
  obtain rfl : c3 = .int .i64 k3 := (List.cons.inj e3).1
  obtain rfl : c1 = .string s1 := (List.cons.inj e1).1
  obtain rfl : c2 = .string s2 := (List.cons.inj e2).1
  exact ⟨⟨k0, s1, s2, k3⟩, rfl⟩
theorem acts_cells {fuel : Nat} {v : Value} {x : DataW H × List MemPlace} (h : DataW.trod enc Tryz.prog W 0 (fun _ => true) true fuel 27 [v] = some x) :
    ∃ l, ActsIn W W.heap.size v l := by
  have z4 : Tryz.prog.cellsOf 78 = 4 := by kernel_rfl
  rcases Go.Deep.open_slice Tryz.underlying27 h with ⟨h0, _⟩ | ⟨a, len, cap, m, n, D, Pl, hv, hb, hl, hm, hmm, rfl, hi⟩
  · obtain rfl := (List.cons.inj h0).1
    exact ⟨[], none, 0, rfl, by simp, fun h => absurd rfl h⟩
  · obtain rfl := (List.cons.inj hv).1
    have hm2 : m = cap := by simpa using hmm
    have hev : ∀ i, i < len → ∃ e : ActV, W.cell? (a.add (i * 4)) = some (.int .i64 e.kind) ∧ W.cell? (a.add (i * 4 + 1)) = some (.string e.path) ∧ W.cell? (a.add (i * 4 + 2)) = some (.string e.text) ∧ W.cell? (a.add (i * 4 + 3)) = some (.int .i64 e.how) := by
      intro i hil
      obtain ⟨cs', hc, ht⟩ := hi i (by omega)
      obtain ⟨e, rfl⟩ := actcell_open ht
      rw [z4] at hc
      obtain ⟨_, _, hat⟩ := World.cells?_some hc
      have g0 := hat 0 (by omega)
      have g1 := hat 1 (by omega)
      have g2 := hat 2 (by omega)
      have g3 := hat 3 (by omega)
      rw [Go.Deep.add_add] at g0 g1 g2 g3
      exact ⟨e, g0.trans rfl, g1.trans rfl, g2.trans rfl, g3.trans rfl⟩
    obtain ⟨E, hE⟩ := Go.Deep.choose_lt (p := fun i (e : ActV) => W.cell? (a.add (i * 4)) = some (.int .i64 e.kind) ∧ W.cell? (a.add (i * 4 + 1)) = some (.string e.path) ∧ W.cell? (a.add (i * 4 + 2)) = some (.string e.text) ∧ W.cell? (a.add (i * 4 + 3)) = some (.int .i64 e.how)) hev
    have hlen : ((List.range len).map E).length = len := by simp
    have hat : ∀ k, k < len → actAt ((List.range len).map E) k = E k := fun k hk => by simp [actAt, hk]
    refine ⟨(List.range len).map E, some a, cap, by rw [hlen], by rw [hlen]; omega, fun hne => ?_⟩
    have hpos : 0 < len := by
      rcases Nat.eq_zero_or_pos len with h0 | h0
      · exact absurd (by simp [h0]) hne
      · exact h0
    have g0 := (hE 0 hpos).1
    have hsp : a.spot = none := by
      have := World.cell?_spot g0
      simpa [Addr.add] using this
    obtain ⟨blk, off, spot⟩ := a
    simp only at hsp
    subst hsp
    have hadd : ∀ j, (⟨blk, off, none⟩ : Addr).add j = ⟨blk, off + j, none⟩ := fun j => by
      cases j with
      | zero => simp [Addr.add]
      | succ j => simp [Addr.add]
    simp only [hadd] at hE
    refine ⟨blk, off, rfl, ?_, fun k hk => ?_⟩
    · have := block_lt_of_cell (hE 0 hpos).1; simpa using this
    · rw [hlen] at hk
      rw [hat k hk]
      exact hE k hk
theorem acts_arg {v : Value} {d : DataW H} {p : List MemPlace} {b0 : Nat} (hv : Value.okWide Tryz.prog W .any b0 27 v) (h : DataW.Trod enc Tryz.prog W 0 (fun _ => true) true 27 v d p) :
    ∃ l, ActsIn W W.heap.size v l := by
  obtain ⟨a, len, cap, rfl⟩ := okWide_slice Tryz.underlying27 hv
  obtain ⟨fuel, hf⟩ := h
  exact acts_cells hf
/-- A tree that is an argument, with its room in reach. -/
theorem tree_open2 {b0 : Nat} {v : Value} {d : DataW H} {p : List MemPlace} (hv : Value.okWide Tryz.prog W .any b0 26 v) (h : DataW.Trod enc Tryz.prog W 0 (fun _ => true) true 26 v d p) (hw : ∀ n ∈ d.weights Tryz.prog 26, n ≤ reachBytes) :
    ∃ (nv : Value) (t : Tr), v = trV nv t ∧ NodesIn W W.heap.size nv t.nodes ∧ (-9223372036854775808 ≤ t.rn ∧ t.rn ≤ 9223372036854775807) ∧ (-9223372036854775808 ≤ t.rb ∧ t.rb ≤ 9223372036854775807) := by
  obtain ⟨cs, rfl, hsz⟩ := okWide_struct Tryz.underlying26 hv
  obtain ⟨l⟩ := cs
  have z26 : Tryz.prog.cellsOf 26 = 4 := by kernel_rfl
  rw [z26] at hsz
  have hsz : l.length = 4 := by simpa using hsz
  obtain ⟨c0, c1, c2, c3, rfl⟩ := four_of hsz
  obtain ⟨fuel, hf⟩ := h
  obtain ⟨xs, n, _, hx, hlen, hxl, hf⟩ := DataW.trod_struct Tryz.underlying26 hf
  obtain ⟨x0, x1, x2, rfl⟩ := three_of hxl
  have z3 : Tryz.prog.cellsOf 3 = 1 := by kernel_rfl
  have z22 : Tryz.prog.cellsOf 22 = 1 := by kernel_rfl
  have z24 : Tryz.prog.cellsOf 24 = 2 := by kernel_rfl
  have h0 : DataW.trod enc Tryz.prog W 0 (fun _ => true) true n 22 (([c0, c1, c2, c3].drop 0).take (Tryz.prog.cellsOf 22)) = some x0 := hf 0 _ rfl
  have h1 : DataW.trod enc Tryz.prog W 0 (fun _ => true) true n 3 (([c0, c1, c2, c3].drop 1).take (Tryz.prog.cellsOf 3)) = some x1 := hf 1 _ rfl
  have h2 : DataW.trod enc Tryz.prog W 0 (fun _ => true) true n 24 (([c0, c1, c2, c3].drop 2).take (Tryz.prog.cellsOf 24)) = some x2 := hf 2 _ rfl
  rw [z22] at h0
  rw [z3] at h1
  rw [z24] at h2
  obtain ⟨k1, e1, _, _⟩ := DataW.trod_int Tryz.underlying3 h1
  obtain rfl : c1 = .int .i64 k1 := (List.cons.inj e1).1
  obtain ⟨ys, n', _, _, _, hyl, hg⟩ := DataW.trod_struct Tryz.underlying24 h2
  obtain ⟨y0, y1, rfl⟩ := two_of hyl
  have i0 : DataW.trod enc Tryz.prog W 0 (fun _ => true) true n' 3 (([c2, c3].drop 0).take (Tryz.prog.cellsOf 3)) = some y0 := hg 0 _ rfl
  have i1 : DataW.trod enc Tryz.prog W 0 (fun _ => true) true n' 3 (([c2, c3].drop 1).take (Tryz.prog.cellsOf 3)) = some y1 := hg 1 _ rfl
  rw [z3] at i0 i1
  obtain ⟨k2, e2, _, b2⟩ := DataW.trod_int Tryz.underlying3 i0
  obtain ⟨k3, e3, _, b3⟩ := DataW.trod_int Tryz.underlying3 i1
  obtain rfl : c2 = .int .i64 k2 := (List.cons.inj e2).1
  obtain rfl : c3 = .int .i64 k3 := (List.cons.inj e3).1
  have hd : d = .agg ([x0, x1, x2].map (·.1)) := congrArg Prod.fst hx
  subst hd
  simp only [DataW.weights, Tryz.underlying26, List.map_cons, List.map_nil, DataW.weightsEach, List.mem_append] at hw
  obtain ⟨l, hN⟩ := nodes_open (v := c0) h0 (fun n hn => hw n (.inl hn))
  exact ⟨c0, ⟨l, k1, k2, k3⟩, rfl, hN, bounds_i64 b2, bounds_i64 b3⟩
end
end Go.Proofs.YtpicgkoclbpjpaaGreatDoor
end

section
namespace Go.Proofs.YtpicgkoclbpjpaaGreatDoor
open Go.RowKit Go.Sort Go.Lib Go.Shelf
open PathM TreeM VtM
set_option linter.unusedVariables false
attribute [local go_sem] cell_rg
attribute [local go_sem] cell_off
attribute [local go_sem] cell_far
set_option maxRecDepth 100000 in
set_option maxHeartbeats 2000000 in
theorem does_1 {k : Nat} {f : Fs} (fb db mb : Nat) (pa tx : ByteArray) (how : Int) (w : World) (h : Sys w fb db mb k f) (hp : pa.size ≤ 1000) (ht : tx.size ≤ 10000) (hkk : k < 800000) :
    Calls Tryz.prog 35 #[.pointer (some ⟨fb, 0, none⟩), .agg #[.int .i64 1, .string pa, .string tx, .int .i64 how]] w (WroteP fb db mb w (writeF f pa.data.toList tx.data.toList how)) := by
  have hp1 : pa.size ≤ maxLen := by unfold maxLen; omega
  have ht1 : tx.size ≤ 1000000 := by omega
  have ht2 : tx.size ≤ maxLen := by unfold maxLen; omega
  have HN := Lib.hid (fun W (hW : Below w.heap.size w W) => h.below hW)
  have HB : Hid (∀ O, Below w.heap.size w (w.alloc O)) := Lib.hid (fun O => (Below.refl w.heap.size w).alloc (Nat.le_refl _) O)
  have hw := fun W (hW : Sys W fb db mb k f) => write_any fb db mb pa tx how W hW hp1 ht1 hkk
  unfold WroteP at hw ⊢
  have HW := Lib.hid hw
  clear hw h hp ht hkk hp1 ht1 ht2
  go_enter Tryz.func35, Tryz.ntmps35
  go_wp2_with (go_at_call 13; (with_reducible refine (HW.out _ (HN.out _ (HB.out _))).mono ?_); rintro e w1 ⟨rfl, hl1, hk1⟩; have HL1 := Lib.hid hl1; have HK1 := Lib.hid ((kept_of_below (HB.out _)).trans hk1); clear hl1 hk1)
  go_ret
  exact ⟨rfl, HL1.out, HK1.out⟩
set_option maxRecDepth 100000 in
set_option maxHeartbeats 2000000 in
theorem does_2 {k : Nat} {f : Fs} (fb db mb : Nat) (pa tx : ByteArray) (how : Int) (w : World) (h : Sys w fb db mb k f) (hp : pa.size ≤ 1000) (ht : tx.size ≤ 10000) (hkk : k < 800000) :
    Calls Tryz.prog 35 #[.pointer (some ⟨fb, 0, none⟩), .agg #[.int .i64 2, .string pa, .string tx, .int .i64 how]] w (WroteP fb db mb w (mkdirF f pa.data.toList how)) := by
  have hp1 : pa.size ≤ maxLen := by unfold maxLen; omega
  have ht1 : tx.size ≤ 1000000 := by omega
  have ht2 : tx.size ≤ maxLen := by unfold maxLen; omega
  have HN := Lib.hid (fun W (hW : Below w.heap.size w W) => h.below hW)
  have HB : Hid (∀ O, Below w.heap.size w (w.alloc O)) := Lib.hid (fun O => (Below.refl w.heap.size w).alloc (Nat.le_refl _) O)
  have hw := fun W (hW : Sys W fb db mb k f) => mkdir_any fb db mb pa how W hW hp1 hkk
  unfold WroteP at hw ⊢
  have HW := Lib.hid hw
  clear hw h hp ht hkk hp1 ht1 ht2
  go_enter Tryz.func35, Tryz.ntmps35
  go_wp2_with (go_at_call 19; (with_reducible refine (HW.out _ (HN.out _ (HB.out _))).mono ?_); rintro e w1 ⟨rfl, hl1, hk1⟩; have HL1 := Lib.hid hl1; have HK1 := Lib.hid ((kept_of_below (HB.out _)).trans hk1); clear hl1 hk1)
  go_ret
  exact ⟨rfl, HL1.out, HK1.out⟩
set_option maxRecDepth 100000 in
set_option maxHeartbeats 2000000 in
theorem does_3 {k : Nat} {f : Fs} (fb db mb : Nat) (pa tx : ByteArray) (how : Int) (w : World) (h : Sys w fb db mb k f) (hp : pa.size ≤ 1000) (ht : tx.size ≤ 10000) (hkk : k < 800000) :
    Calls Tryz.prog 35 #[.pointer (some ⟨fb, 0, none⟩), .agg #[.int .i64 3, .string pa, .string tx, .int .i64 how]] w (WroteP fb db mb w (symlinkF f tx.data.toList pa.data.toList)) := by
  have hp1 : pa.size ≤ maxLen := by unfold maxLen; omega
  have ht1 : tx.size ≤ 1000000 := by omega
  have ht2 : tx.size ≤ maxLen := by unfold maxLen; omega
  have HN := Lib.hid (fun W (hW : Below w.heap.size w W) => h.below hW)
  have HB : Hid (∀ O, Below w.heap.size w (w.alloc O)) := Lib.hid (fun O => (Below.refl w.heap.size w).alloc (Nat.le_refl _) O)
  have hw := fun W (hW : Sys W fb db mb k f) => symlink_any fb db mb tx pa W hW hp1 hkk
  unfold WroteP at hw ⊢
  have HW := Lib.hid hw
  clear hw h hp ht hkk hp1 ht1 ht2
  go_enter Tryz.func35, Tryz.ntmps35
  go_wp2_with (go_at_call 17; (with_reducible refine (HW.out _ (HN.out _ (HB.out _))).mono ?_); rintro e w1 ⟨rfl, hl1, hk1⟩; have HL1 := Lib.hid hl1; have HK1 := Lib.hid ((kept_of_below (HB.out _)).trans hk1); clear hl1 hk1)
  go_ret
  exact ⟨rfl, HL1.out, HK1.out⟩
set_option maxRecDepth 100000 in
set_option maxHeartbeats 2000000 in
theorem does_4 {k : Nat} {f : Fs} (fb db mb : Nat) (pa tx : ByteArray) (how : Int) (w : World) (h : Sys w fb db mb k f) (hp : pa.size ≤ 1000) (ht : tx.size ≤ 10000) (hkk : k < 800000) :
    Calls Tryz.prog 35 #[.pointer (some ⟨fb, 0, none⟩), .agg #[.int .i64 4, .string pa, .string tx, .int .i64 how]] w (WroteP fb db mb w (linkF f pa.data.toList tx.data.toList)) := by
  have hp1 : pa.size ≤ maxLen := by unfold maxLen; omega
  have ht1 : tx.size ≤ 1000000 := by omega
  have ht2 : tx.size ≤ maxLen := by unfold maxLen; omega
  have HN := Lib.hid (fun W (hW : Below w.heap.size w W) => h.below hW)
  have HB : Hid (∀ O, Below w.heap.size w (w.alloc O)) := Lib.hid (fun O => (Below.refl w.heap.size w).alloc (Nat.le_refl _) O)
  have hw := fun W (hW : Sys W fb db mb k f) => link_any fb db mb pa tx W hW hp1 ht2 hkk
  unfold WroteP at hw ⊢
  have HW := Lib.hid hw
  clear hw h hp ht hkk hp1 ht1 ht2
  go_enter Tryz.func35, Tryz.ntmps35
  go_wp2_with (go_at_call 22; (with_reducible refine (HW.out _ (HN.out _ (HB.out _))).mono ?_); rintro e w1 ⟨rfl, hl1, hk1⟩; have HL1 := Lib.hid hl1; have HK1 := Lib.hid ((kept_of_below (HB.out _)).trans hk1); clear hl1 hk1)
  go_ret
  exact ⟨rfl, HL1.out, HK1.out⟩
set_option maxRecDepth 100000 in
set_option maxHeartbeats 2000000 in
theorem does_5 {k : Nat} {f : Fs} (fb db mb : Nat) (pa tx : ByteArray) (how : Int) (w : World) (h : Sys w fb db mb k f) (hp : pa.size ≤ 1000) (ht : tx.size ≤ 10000) (hkk : k < 800000) :
    Calls Tryz.prog 35 #[.pointer (some ⟨fb, 0, none⟩), .agg #[.int .i64 5, .string pa, .string tx, .int .i64 how]] w (WroteP fb db mb w (rmdirF f pa.data.toList)) := by
  have hp1 : pa.size ≤ maxLen := by unfold maxLen; omega
  have ht1 : tx.size ≤ 1000000 := by omega
  have ht2 : tx.size ≤ maxLen := by unfold maxLen; omega
  have HN := Lib.hid (fun W (hW : Below w.heap.size w W) => h.below hW)
  have HB : Hid (∀ O, Below w.heap.size w (w.alloc O)) := Lib.hid (fun O => (Below.refl w.heap.size w).alloc (Nat.le_refl _) O)
  have hw := fun W (hW : Sys W fb db mb k f) => rmdir_any fb db mb pa W hW hp1 hkk
  unfold WroteP at hw ⊢
  have HW := Lib.hid hw
  clear hw h hp ht hkk hp1 ht1 ht2
  go_enter Tryz.func35, Tryz.ntmps35
  go_wp2_with (go_at_call 21; (with_reducible refine (HW.out _ (HN.out _ (HB.out _))).mono ?_); rintro e w1 ⟨rfl, hl1, hk1⟩; have HL1 := Lib.hid hl1; have HK1 := Lib.hid ((kept_of_below (HB.out _)).trans hk1); clear hl1 hk1)
  go_ret
  exact ⟨rfl, HL1.out, HK1.out⟩
set_option maxRecDepth 100000 in
set_option maxHeartbeats 2000000 in
theorem does_6 {k : Nat} {f : Fs} (fb db mb : Nat) (pa tx : ByteArray) (how : Int) (w : World) (h : Sys w fb db mb k f) (hp : pa.size ≤ 1000) (ht : tx.size ≤ 10000) (hkk : k < 800000) :
    Calls Tryz.prog 35 #[.pointer (some ⟨fb, 0, none⟩), .agg #[.int .i64 6, .string pa, .string tx, .int .i64 how]] w (WroteP fb db mb w (unlinkF f pa.data.toList)) := by
  have hp1 : pa.size ≤ maxLen := by unfold maxLen; omega
  have ht1 : tx.size ≤ 1000000 := by omega
  have ht2 : tx.size ≤ maxLen := by unfold maxLen; omega
  have HN := Lib.hid (fun W (hW : Below w.heap.size w W) => h.below hW)
  have HB : Hid (∀ O, Below w.heap.size w (w.alloc O)) := Lib.hid (fun O => (Below.refl w.heap.size w).alloc (Nat.le_refl _) O)
  have hw := fun W (hW : Sys W fb db mb k f) => unlink_any fb db mb pa W hW hp1 hkk
  unfold WroteP at hw ⊢
  have HW := Lib.hid hw
  clear hw h hp ht hkk hp1 ht1 ht2
  go_enter Tryz.func35, Tryz.ntmps35
  go_wp2_with (go_at_call 18; (with_reducible refine (HW.out _ (HN.out _ (HB.out _))).mono ?_); rintro e w1 ⟨rfl, hl1, hk1⟩; have HL1 := Lib.hid hl1; have HK1 := Lib.hid ((kept_of_below (HB.out _)).trans hk1); clear hl1 hk1)
  go_ret
  exact ⟨rfl, HL1.out, HK1.out⟩
set_option maxRecDepth 100000 in
set_option maxHeartbeats 2000000 in
theorem does_7 {k : Nat} {f : Fs} (fb db mb : Nat) (pa tx : ByteArray) (how : Int) (w : World) (h : Sys w fb db mb k f) (hp : pa.size ≤ 1000) (ht : tx.size ≤ 10000) (hkk : k < 800000) :
    Calls Tryz.prog 35 #[.pointer (some ⟨fb, 0, none⟩), .agg #[.int .i64 7, .string pa, .string tx, .int .i64 how]] w (WroteP fb db mb w (renameF f pa.data.toList tx.data.toList)) := by
  have hp1 : pa.size ≤ maxLen := by unfold maxLen; omega
  have ht1 : tx.size ≤ 1000000 := by omega
  have ht2 : tx.size ≤ maxLen := by unfold maxLen; omega
  have HN := Lib.hid (fun W (hW : Below w.heap.size w W) => h.below hW)
  have HB : Hid (∀ O, Below w.heap.size w (w.alloc O)) := Lib.hid (fun O => (Below.refl w.heap.size w).alloc (Nat.le_refl _) O)
  have hw := fun W (hW : Sys W fb db mb k f) => rename_any fb db mb pa tx W hW hp1 ht2 hkk
  unfold WroteP at hw ⊢
  have HW := Lib.hid hw
  clear hw h hp ht hkk hp1 ht1 ht2
  go_enter Tryz.func35, Tryz.ntmps35
  go_wp2_with (go_at_call 24; (with_reducible refine (HW.out _ (HN.out _ (HB.out _))).mono ?_); rintro e w1 ⟨rfl, hl1, hk1⟩; have HL1 := Lib.hid hl1; have HK1 := Lib.hid ((kept_of_below (HB.out _)).trans hk1); clear hl1 hk1)
  go_ret
  exact ⟨rfl, HL1.out, HK1.out⟩
set_option maxRecDepth 100000 in
set_option maxHeartbeats 2000000 in
theorem does_8 {k : Nat} {f : Fs} (fb db mb : Nat) (pa tx : ByteArray) (how : Int) (w : World) (h : Sys w fb db mb k f) (hp : pa.size ≤ 1000) (ht : tx.size ≤ 10000) (hkk : k < 800000) :
    Calls Tryz.prog 35 #[.pointer (some ⟨fb, 0, none⟩), .agg #[.int .i64 8, .string pa, .string tx, .int .i64 how]] w (WroteP fb db mb w (chmodF f pa.data.toList how)) := by
  have hp1 : pa.size ≤ maxLen := by unfold maxLen; omega
  have ht1 : tx.size ≤ 1000000 := by omega
  have ht2 : tx.size ≤ maxLen := by unfold maxLen; omega
  have HN := Lib.hid (fun W (hW : Below w.heap.size w W) => h.below hW)
  have HB : Hid (∀ O, Below w.heap.size w (w.alloc O)) := Lib.hid (fun O => (Below.refl w.heap.size w).alloc (Nat.le_refl _) O)
  have hw := fun W (hW : Sys W fb db mb k f) => chmod_any fb db mb pa how W hW hp1 hkk
  unfold WroteP at hw ⊢
  have HW := Lib.hid hw
  clear hw h hp ht hkk hp1 ht1 ht2
  go_enter Tryz.func35, Tryz.ntmps35
  go_wp2_with (go_at_call 73; (with_reducible refine (HW.out _ (HN.out _ (HB.out _))).mono ?_); rintro e w1 ⟨rfl, hl1, hk1⟩; have HL1 := Lib.hid hl1; have HK1 := Lib.hid ((kept_of_below (HB.out _)).trans hk1); clear hl1 hk1)
  go_ret
  exact ⟨rfl, HL1.out, HK1.out⟩
set_option maxRecDepth 100000 in
set_option maxHeartbeats 2000000 in
theorem does_9 {k : Nat} {f : Fs} (fb db mb : Nat) (pa tx : ByteArray) (how : Int) (w : World) (h : Sys w fb db mb k f) (hp : pa.size ≤ 1000) (ht : tx.size ≤ 10000) (hkk : k < 800000) :
    Calls Tryz.prog 35 #[.pointer (some ⟨fb, 0, none⟩), .agg #[.int .i64 9, .string pa, .string tx, .int .i64 how]] w (WroteP fb db mb w (touchF f pa.data.toList)) := by
  have hp1 : pa.size ≤ maxLen := by unfold maxLen; omega
  have ht1 : tx.size ≤ 1000000 := by omega
  have ht2 : tx.size ≤ maxLen := by unfold maxLen; omega
  have HN := Lib.hid (fun W (hW : Below w.heap.size w W) => h.below hW)
  have HB : Hid (∀ O, Below w.heap.size w (w.alloc O)) := Lib.hid (fun O => (Below.refl w.heap.size w).alloc (Nat.le_refl _) O)
  have hw := fun W (hW : Sys W fb db mb k f) => touch_any fb db mb pa W hW hp1 hkk
  unfold WroteP at hw ⊢
  have HW := Lib.hid hw
  clear hw h hp ht hkk hp1 ht1 ht2
  go_enter Tryz.func35, Tryz.ntmps35
  go_wp2_with (go_at_call 74; (with_reducible refine (HW.out _ (HN.out _ (HB.out _))).mono ?_); rintro e w1 ⟨rfl, hl1, hk1⟩; have HL1 := Lib.hid hl1; have HK1 := Lib.hid ((kept_of_below (HB.out _)).trans hk1); clear hl1 hk1)
  go_ret
  exact ⟨rfl, HL1.out, HK1.out⟩
set_option maxRecDepth 100000 in
set_option maxHeartbeats 2000000 in
theorem does_0 {k : Nat} {f : Fs} (fb db mb : Nat) (kind : Int) (pa tx : ByteArray) (how : Int) (w : World) (h : Sys w fb db mb k f) (hk : kind < 1 ∨ 9 < kind) :
    Calls Tryz.prog 35 #[.pointer (some ⟨fb, 0, none⟩), .agg #[.int .i64 kind, .string pa, .string tx, .int .i64 how]] w (WroteP fb db mb w (f, 0)) := by
  have HB : Hid (∀ O, Below w.heap.size w (w.alloc O)) := Lib.hid (fun O => (Below.refl w.heap.size w).alloc (Nat.le_refl _) O)
  have HL := Lib.hid h.live
  have n1 : (kind == 1) = false := beq_eq_false_iff_ne.2 (by omega)
  have n2 : (kind == 2) = false := beq_eq_false_iff_ne.2 (by omega)
  have n3 : (kind == 3) = false := beq_eq_false_iff_ne.2 (by omega)
  have n4 : (kind == 4) = false := beq_eq_false_iff_ne.2 (by omega)
  have n5 : (kind == 5) = false := beq_eq_false_iff_ne.2 (by omega)
  have n6 : (kind == 6) = false := beq_eq_false_iff_ne.2 (by omega)
  have n7 : (kind == 7) = false := beq_eq_false_iff_ne.2 (by omega)
  have n8 : (kind == 8) = false := beq_eq_false_iff_ne.2 (by omega)
  have n9 : (kind == 9) = false := beq_eq_false_iff_ne.2 (by omega)
  unfold WroteP
  clear h hk
  go_enter Tryz.func35, Tryz.ntmps35
  go_wp2
  go_ret
  exact ⟨rfl, HL.out.below (HB.out _), kept_of_below (HB.out _)⟩
/-- An act as the mathematics have it. -/
def ActV.act (c : ActV) : VtM.Act := ⟨c.kind, c.path.data.toList, c.text.data.toList, c.how⟩
theorem does_any {k : Nat} {f : Fs} (fb db mb : Nat) (c : ActV) (w : World) (h : Sys w fb db mb k f) (hp : c.path.size ≤ 1000) (ht : c.text.size ≤ 10000) (hkk : k < 800000) :
    Calls Tryz.prog 35 #[.pointer (some ⟨fb, 0, none⟩), .agg #[.int .i64 c.kind, .string c.path, .string c.text, .int .i64 c.how]] w (WroteP fb db mb w (doesF f c.act)) := by
  obtain ⟨kind, pa, tx, how⟩ := c
  have hc : kind = 1 ∨ kind = 2 ∨ kind = 3 ∨ kind = 4 ∨ kind = 5 ∨ kind = 6 ∨ kind = 7 ∨ kind = 8 ∨ kind = 9 ∨ (kind < 1 ∨ 9 < kind) := by omega
  rcases hc with rfl | rfl | rfl | rfl | rfl | rfl | rfl | rfl | rfl | hk
  · exact does_1 fb db mb pa tx how w h hp ht hkk
  · exact does_2 fb db mb pa tx how w h hp ht hkk
  · exact does_3 fb db mb pa tx how w h hp ht hkk
  · exact does_4 fb db mb pa tx how w h hp ht hkk
  · exact does_5 fb db mb pa tx how w h hp ht hkk
  · exact does_6 fb db mb pa tx how w h hp ht hkk
  · exact does_7 fb db mb pa tx how w h hp ht hkk
  · exact does_8 fb db mb pa tx how w h hp ht hkk
  · exact does_9 fb db mb pa tx how w h hp ht hkk
  · have e : doesF f (ActV.act ⟨kind, pa, tx, how⟩) = (f, 0) := by
      unfold doesF ActV.act
      dsimp only
      rw [if_neg (by omega), if_neg (by omega), if_neg (by omega), if_neg (by omega), if_neg (by omega), if_neg (by omega), if_neg (by omega), if_neg (by omega), if_neg (by omega)]
    rw [e]
    exact does_0 fb db mb kind pa tx how w h hk
set_option maxRecDepth 100000 in
set_option maxHeartbeats 2000000 in
theorem short_any (c : ActV) (w : World) :
    Calls Tryz.prog 39 #[.agg #[.int .i64 c.kind, .string c.path, .string c.text, .int .i64 c.how]] w fun e w' => e = .returned (.bool (decide (c.path.size ≤ 1000) && decide (c.text.size ≤ 10000))) ∧ Below w.heap.size w w' := by
  have HB : Hid (∀ O, Below w.heap.size w (w.alloc O)) := Lib.hid (fun O => (Below.refl w.heap.size w).alloc (Nat.le_refl _) O)
  obtain ⟨kind, pa, tx, how⟩ := c
  dsimp only
  by_cases h1 : pa.size ≤ 1000
  · have h1i : (pa.size : Int) ≤ 1000 := by omega
    rw [show decide (pa.size ≤ 1000) = true from decide_eq_true h1, Bool.true_and]
    clear h1
    go_enter Tryz.func39, Tryz.ntmps39
    go_wp2
    go_ret
    exact ⟨ret_bool (decide_eq_decide.2 (by omega)), by first | exact HB.out _ | exact Below.refl _ _⟩
  · have h1i : ¬ (pa.size : Int) ≤ 1000 := by omega
    rw [show decide (pa.size ≤ 1000) = false from decide_eq_false h1, Bool.false_and]
    clear h1
    go_enter Tryz.func39, Tryz.ntmps39
    go_wp2
    go_ret
    exact ⟨rfl, by first | exact HB.out _ | exact Below.refl _ _⟩
end Go.Proofs.YtpicgkoclbpjpaaGreatDoor
end

section
namespace Go.Proofs.YtpicgkoclbpjpaaGreatDoor
open Go.RowKit Go.Sort Go.Lib Go.Shelf
open PathM TreeM VtM
set_option linter.unusedVariables false
attribute [local go_sem] cell_rg
attribute [local go_sem] cell_off
attribute [local go_sem] cell_far
/-- What the law holds between two rounds. -/
def FillIn (w : World) (fb db mb n : Nat) (W : World) : Prop := ∃ f, Sys W fb db mb (600 + 2 * n) f ∧ One f.t ∧ Below w.heap.size w W
/-- A file system is answered. -/
def FilledPost (w : World) (e : Ending) (w' : World) : Prop := ∃ fb db mb f, e = .returned (.tuple #[.pointer (some ⟨fb, 0, none⟩), .pointer (some ⟨db, 0, none⟩), .bool true]) ∧ Sys w' fb db mb 700 f ∧ One f.t ∧ (w.heap.size ≤ fb ∧ w.heap.size ≤ db ∧ w.heap.size ≤ mb) ∧ Below w.heap.size w w'
theorem Sys.mono {w : World} {fb db mb k k' : Nat} {f : Fs} (h : Sys w fb db mb k f) (hk : k ≤ k') : Sys w fb db mb k' f := ⟨h.live, h.ok.mono hk, h.lib⟩
theorem own_ge5 {fb db mb B : Nat} (h : B ≤ fb ∧ B ≤ db ∧ B ≤ mb) : ∀ k, Own3 fb db mb k → B ≤ k := by
  rintro k (e | e | e)
  · rw [e]; exact h.1
  · rw [e]; exact h.2.1
  · rw [e]; exact h.2.2
set_option maxRecDepth 100000 in
set_option maxHeartbeats 4000000 in
theorem filled_ok (nv av : Value) (t : Tr) (l : List ActV) (w : World) (hN : NodesIn w w.heap.size nv t.nodes) (hA : ActsIn w w.heap.size av l) (hc : checkB t = true) (hl : t.last ≤ 1099511627776) (hcn : ∀ i, i < t.nodes.length → (ndAt t.nodes i).es.length ≤ 200) (hrn : i64 t.rn) (hrb : i64 t.rb) (hM : ∃ m, w.cell? ⟨0, 0, none⟩ = some (.int .i64 m)) :
    Calls Tryz.prog 11 #[trV nv t, av] w (FilledPost w) := by
  obtain ⟨hok, hone⟩ := begin_ok hc hl hcn hrn hrb (ckI 0)
  obtain ⟨A, c, rfl⟩ := nodes_len hN
  obtain ⟨A2, c2, rfl⟩ := hA.len
  have hb0 := (Below.refl w.heap.size w).alloc (Nat.le_refl _) (.cells #[.slice A t.nodes.length c, .int .i64 t.last, .int .i64 t.rn, .int .i64 t.rb] 26)
  have hop := open5_any _ t 0 (w.alloc (.cells #[.slice A t.nodes.length c, .int .i64 t.last, .int .i64 t.rn, .int .i64 t.rb] 26)) ((hN.below hb0).more hb0.size) hc (fun nd hnd => (hok.ids nd hnd).1) (fun nd hnd => by have := hok.cnt nd hnd; omega) hok.data
  have HB0 := Lib.hid hb0
  have HM := Lib.hid hM
  have HA := Lib.hid hA
  have HOK := Lib.hid hok
  have HON := Lib.hid hone
  unfold OpenPost trV at hop
  unfold trV
  have HOP := Lib.hid hop
  clear hok hone hb0 hop hN hA hc hl hcn hrn hrb hM
  go_enter Tryz.func11, Tryz.ntmps11
  go_wp2_with (go_at_call 36; (with_reducible refine HOP.out.mono ?_); rintro e w1 ⟨fb, db, mb, rfl, h1, h2, h3, hL, hb1⟩; have HG := Lib.hid (And.intro h1 (And.intro h2 h3)); have HL1 := Lib.hid hL; have HB1 := Lib.hid (HB0.out.trans (hb1.mono HB0.out.size)); clear h1 h2 h3 hL hb1)
  have HGE : Hid (∀ k, Own3 fb db mb k → w.heap.size ≤ k) := Lib.hid (own_ge5 ⟨Nat.le_trans HB0.out.size HG.out.1, Nat.le_trans HB0.out.size HG.out.2.1, Nat.le_trans HB0.out.size HG.out.2.2⟩)
  go_loopw [10] (fun i wr => ∃ n : Nat, n ≤ 40 ∧ i = .int .i64 n ∧ FillIn w fb db mb n wr) (fun i _ => 40 - (intOf i).toNat)
  case atStart =>
    refine ⟨0, by omega, rfl, ⟨t, ckI 0⟩, ⟨HL1.out, HOK.out, ?_⟩, HON.out, HB1.out⟩
    obtain ⟨m, hm⟩ := HM.out
    exact ⟨m, (HB1.out.cell (p := ⟨0, 0, none⟩) (cell_lt hm)).trans hm⟩
  case round =>
    obtain ⟨n, hn, rfl, f, hS, h1, hbel⟩ := hrel
    have HS := Lib.hid hS
    have H1 := Lib.hid h1
    have HB := Lib.hid hbel
    clear hS h1 hbel
    by_cases hlt : n < l.length
    · by_cases h40 : n < 40
      · obtain ⟨b, off, hA2, hb, x0, x1, x2, x3⟩ := (HA.out.below HB.out).at hlt
        subst hA2
        have hbr : b < wr.heap.size := Nat.lt_of_lt_of_le hb HB.out.size
        have hnl : (n : Int) < (l.length : Int) := by omega
        have h40i : (n : Int) < 40 := by omega
        generalize actAt l n = a at *
        have hsh := fun W => short_any a W
        by_cases hs : a.path.size ≤ 1000 ∧ a.text.size ≤ 10000
        · rw [decide_eq_true hs.1, decide_eq_true hs.2, Bool.and_self] at hsh
          have HSH := Lib.hid hsh
          have hdo := fun W (hW : Sys W fb db mb (600 + 2 * n) f) => does_any fb db mb a W hW hs.1 hs.2 (by omega)
          unfold WroteP at hdo
          have HDO := Lib.hid hdo
          have HKD := Lib.hid (keep_does HS.out.ok (by omega) a.act)
          have HO1 := Lib.hid (one_does H1.out HS.out.ok (by omega) a.act)
          clear hsh hdo hs hlt h40 hb
          go_wp2_with (first | (go_at_call 39; (with_reducible refine (HSH.out _).mono ?_); rintro e w4 ⟨rfl, hb4⟩; have HS4 := Lib.hid (HS.out.below hb4); have HB4 := Lib.hid (HB.out.trans (hb4.mono HB.out.size)); have y0 := (hb4.cell (p := ⟨b, off + n * 4, none⟩) hbr).trans x0; have y1 := (hb4.cell (p := ⟨b, off + n * 4 + 1, none⟩) hbr).trans x1; have y2 := (hb4.cell (p := ⟨b, off + n * 4 + 2, none⟩) hbr).trans x2; have y3 := (hb4.cell (p := ⟨b, off + n * 4 + 3, none⟩) hbr).trans x3; clear hb4 x0 x1 x2 x3) | (go_at_call 35; (with_reducible refine (HDO.out _ HS4.out).mono ?_); rintro e w5 ⟨rfl, hl5, hk5⟩; have HS5 := Lib.hid (HS4.out.wrote hl5 hk5 HKD.out); have HB5 := Lib.hid (HB4.out.trans (hk5.below HB4.out.size HGE.out)); clear hl5 hk5 y0 y1 y2 y3))
          go_roundw
          case rel => exact ⟨n + 1, by omega, by go_num, _, HS5.out.mono (by omega), HO1.out, HB5.out⟩
          case measure => simp [intOf]; omega
        · have : (decide (a.path.size ≤ 1000) && decide (a.text.size ≤ 10000)) = false := by
            rw [Bool.and_eq_false_iff]
            by_cases h1 : a.path.size ≤ 1000
            · exact .inr (decide_eq_false fun h2 => hs ⟨h1, h2⟩)
            · exact .inl (decide_eq_false h1)
          rw [this] at hsh
          have HSH := Lib.hid hsh
          clear hsh this hs hlt h40 hb
          go_wp2_with (go_at_call 39; (with_reducible refine (HSH.out _).mono ?_); rintro e w4 ⟨rfl, hb4⟩; have HS4 := Lib.hid (HS.out.below hb4); have HB4 := Lib.hid (HB.out.trans (hb4.mono HB.out.size)); have y0 := (hb4.cell (p := ⟨b, off + n * 4, none⟩) hbr).trans x0; have y1 := (hb4.cell (p := ⟨b, off + n * 4 + 1, none⟩) hbr).trans x1; have y2 := (hb4.cell (p := ⟨b, off + n * 4 + 2, none⟩) hbr).trans x2; have y3 := (hb4.cell (p := ⟨b, off + n * 4 + 3, none⟩) hbr).trans x3; clear hb4 x0 x1 x2 x3)
          go_roundw
          case rel => exact ⟨n + 1, by omega, by go_num, _, HS4.out.mono (by omega), H1.out, HB4.out⟩
          case measure => simp [intOf]; omega
      · have hnl : (n : Int) < (l.length : Int) := by omega
        have h40i : ¬ (n : Int) < 40 := by omega
        go_wp2
        go_ret3
        exact ⟨fb, db, mb, f, rfl, HS.out.mono (by omega), H1.out, ⟨Nat.le_trans HB0.out.size HG.out.1, Nat.le_trans HB0.out.size HG.out.2.1, Nat.le_trans HB0.out.size HG.out.2.2⟩, HB.out⟩
    · have hnl : ¬ (n : Int) < (l.length : Int) := by omega
      go_wp2
      go_ret3
      exact ⟨fb, db, mb, f, rfl, HS.out.mono (by omega), H1.out, ⟨Nat.le_trans HB0.out.size HG.out.1, Nat.le_trans HB0.out.size HG.out.2.1, Nat.le_trans HB0.out.size HG.out.2.2⟩, HB.out⟩
set_option maxRecDepth 100000 in
set_option maxHeartbeats 4000000 in
theorem filled_bad (nv av : Value) (t : Tr) (l : List ActV) (w : World) (hN : NodesIn w w.heap.size nv t.nodes) (hA : ActsIn w w.heap.size av l) (hc : checkB t = false) :
    Calls Tryz.prog 11 #[trV nv t, av] w fun e w' => e = .returned (.tuple #[.pointer none, .pointer none, .bool false]) ∧ Below w.heap.size w w' := by
  obtain ⟨A, c, rfl⟩ := nodes_len hN
  obtain ⟨A2, c2, rfl⟩ := hA.len
  have hb0 := (Below.refl w.heap.size w).alloc (Nat.le_refl _) (.cells #[.slice A t.nodes.length c, .int .i64 t.last, .int .i64 t.rn, .int .i64 t.rb] 26)
  have hop := open5_bad _ t 0 (w.alloc (.cells #[.slice A t.nodes.length c, .int .i64 t.last, .int .i64 t.rn, .int .i64 t.rb] 26)) ((hN.below hb0).more hb0.size) hc
  have HB0 := Lib.hid hb0
  unfold trV at hop
  unfold trV
  have HOP := Lib.hid hop
  clear hb0 hop hN hA hc
  go_enter Tryz.func11, Tryz.ntmps11
  go_wp2_with (go_at_call 36; (with_reducible refine HOP.out.mono ?_); rintro e w1 ⟨rfl, hb1⟩; have HB1 := Lib.hid (HB0.out.trans (hb1.mono HB0.out.size)); clear hb1)
  refine wp_loop_rounds 1 ?_
  rw [rounds_succ]
  go_wp2
  go_ret3
  exact ⟨rfl, HB1.out⟩
end Go.Proofs.YtpicgkoclbpjpaaGreatDoor
end
