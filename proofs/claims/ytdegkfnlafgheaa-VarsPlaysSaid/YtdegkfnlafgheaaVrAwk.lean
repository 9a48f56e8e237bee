/- DERIVED. The walks over New of no variables, and the chapter's example. -/
import Derived.Test.YtdegkfnlafgheaaVrGet
import Derived.Deep.LoopGhost
namespace Go.Proofs.Ytdegkfnlafgheaa.Vr
open Go.RowKit
open PathM WdM
open Go.Proofs.Ytdegkfnlafgheaa.Wd
open Go.Proofs.Ytdegkfnlafgheaa.NumM (textL decN decE)
set_option linter.unusedVariables false
set_option maxRecDepth 100000 in
set_option maxHeartbeats 1600000 in
theorem new_nil (ps : List Bs) (v : Value) (w : World) (hv : ArIn w v ps) (hn : ps.length ≤ 256) (hl : ∀ x ∈ ps, x.length ≤ 4611686018427387904) (hs : tooBig ps = false) :
    Calls Try.prog 10 #[.slice none 0 0, v] w fun e w' => ∃ av, e = .returned (.tuple #[.pointer (some ⟨w.heap.size, 0, none⟩), .int .i64 0]) ∧ TbIn w' w.heap.size 0 (.slice none 0 0) ps av ∧ Below w.heap.size w w' := by
  have HW : Hid (∀ W, W = w.alloc (.cells #[.int .i64 0, .bool true, .slice none 0 0, .slice none 0 0] 47) → Calls Try.prog 25 #[.pointer (some ⟨w.heap.size, 0, none⟩), v] W fun e w' => e = .returned (.int .i64 0) ∧ ∃ av', TbIn w' w.heap.size 0 (.slice none 0 0) ps av' ∧ Below w.heap.size w w') := Lib.hid (by
    rintro W rfl
    have hb : Below w.heap.size w (w.alloc (.cells #[.int .i64 0, .bool true, .slice none 0 0, .slice none 0 0] 47)) := (Below.refl _ _).alloc (Nat.le_refl _) _
    have h0 : TbIn (w.alloc (.cells #[.int .i64 0, .bool true, .slice none 0 0, .slice none 0 0] 47)) w.heap.size 0 (.slice none 0 0) [] (.slice none 0 0) := ⟨heap_alloc_new w _, ArIn.nil _ _ _, by simp, by simp⟩
    refine (setArgs_ok w.heap.size 0 (.slice none 0 0) (.slice none 0 0) [] ps v _ h0 (hv.below hb) hn hl hs).mono ?_
    rintro e w' ⟨rfl, av', h1, _, h2⟩
    exact ⟨rfl, av', h1, hb.trans (h2.below hb.size (by rintro k rfl; exact Nat.le_refl _))⟩)
  obtain ⟨A, c, rfl, _⟩ := hv.form
  clear hv hl hs
  generalize ps.length = n at *
  go_enter Try.func10, Try.ntmps10
  go_wp2_with fail
  go_loopg [15] 0 (fun g x wr => x = .int .i64 0 ∧ wr = w.alloc (.cells #[.int .i64 0, .bool true, .slice none 0 0, .slice none 0 0] 47))
  case atStart => exact ⟨rfl, rfl⟩
  case round =>
    obtain ⟨rfl, hwr⟩ := hrel
    have HC := Lib.hid (HW.out _ hwr)
    clear hwr
    go_wp2_with (go_at_call 25; refine HC.out.mono ?_; rintro e W ⟨rfl, av', h1, h2⟩; have H1 := Lib.hid h1; have H2 := Lib.hid h2; clear h1 h2)
    go_ret2
    exact ⟨av', rfl, H1.out, H2.out⟩
theorem aw2 : optV (parL [[97], [98]] [50]) = .tuple #[.string ⟨#[98]⟩, .bool true] := by
  have e : decE [50] = 0 := by decide +kernel
  have n : decN [50] = 2 := by decide +kernel
  unfold parL
  rw [e, n]; rfl
theorem aw1 : optV (parL [[98]] [49]) = .tuple #[.string ⟨#[98]⟩, .bool true] := by
  have e : decE [49] = 0 := by decide +kernel
  have n : decN [49] = 1 := by decide +kernel
  unfold parL
  rw [e, n]; rfl
theorem awn : nm (textL (([[97], [98]] : List Bs).length : Int)) = ⟨#[50]⟩ := by decide +kernel
theorem awj : nm (Lib.join [[97], [98]] [32]) = ⟨#[97, 32, 98]⟩ := by decide +kernel
set_option maxRecDepth 100000 in
set_option maxHeartbeats 1600000 in
/-- The chapter's example. -/
theorem awake_any (w : World) : Calls Try.prog 8 #[] w fun e w' => e = .returned (.bool true) ∧ Below w.heap.size w w' := by
  have HN : Hid (∀ W, W = w.alloc (.cells #[.string ⟨#[97]⟩, .string ⟨#[98]⟩] 9) → Calls Try.prog 10 #[.slice none 0 0, .slice (some ⟨w.heap.size, 0, none⟩) 2 2] W fun e w' => ∃ av, e = .returned (.tuple #[.pointer (some ⟨w.heap.size + 1, 0, none⟩), .int .i64 0]) ∧ TbIn w' (w.heap.size + 1) 0 (.slice none 0 0) [[97], [98]] av ∧ Below w.heap.size w w') := Lib.hid (by
    rintro W rfl
    have hb : Below w.heap.size w (w.alloc (.cells #[.string ⟨#[97]⟩, .string ⟨#[98]⟩] 9)) := (Below.refl _ _).alloc (Nat.le_refl _) _
    have hz : (w.alloc (.cells #[.string ⟨#[97]⟩, .string ⟨#[98]⟩] 9)).heap.size = w.heap.size + 1 := by simp
    have ha : ArIn (w.alloc (.cells #[.string ⟨#[97]⟩, .string ⟨#[98]⟩] 9)) (.slice (some ⟨w.heap.size, 0, none⟩) 2 2) [[97], [98]] := by
      refine ⟨_, 2, rfl, Nat.le_refl _, fun _ => ⟨w.heap.size, 0, rfl, by rw [hz]; omega, fun i hi => ?_⟩⟩
      have hi2 : i < 2 := hi
      have c0 := cell_blk (heap_alloc_new w (.cells #[.string ⟨#[97]⟩, .string ⟨#[98]⟩] 9)) 0
      have c1 := cell_blk (heap_alloc_new w (.cells #[.string ⟨#[97]⟩, .string ⟨#[98]⟩] 9)) 1
      rcases i with _ | _ | i
      · exact c0
      · exact c1
      · omega
    have := new_nil [[97], [98]] _ _ ha (by decide) (by intro x hx; simp at hx; rcases hx with rfl | rfl <;> simp) rfl
    rw [hz] at this
    refine this.mono ?_
    rintro e w' ⟨av, rfl, h1, h2⟩
    exact ⟨av, rfl, h1, hb.trans (h2.mono (by omega))⟩)
  have HG2 : Hid (∀ W tb av, Hid (TbIn W tb 0 (.slice none 0 0) [[97], [98]] av) → Calls Try.prog 15 #[.pointer (some ⟨tb, 0, none⟩), .string ⟨#[50]⟩] W fun e w' => e = .returned (.tuple #[.string ⟨#[98]⟩, .bool true]) ∧ W = w') := Lib.hid (by
    intro W tb av h
    have := get_num tb 0 _ av _ 50 [] (by decide) W h.out (by simp)
    rw [aw2] at this
    exact this)
  have HG1 : Hid (∀ W tb av, Hid (TbIn W tb 0 (.slice none 0 0) [[98]] av) → Calls Try.prog 15 #[.pointer (some ⟨tb, 0, none⟩), .string ⟨#[49]⟩] W fun e w' => e = .returned (.tuple #[.string ⟨#[98]⟩, .bool true]) ∧ W = w') := Lib.hid (by
    intro W tb av h
    have := get_num tb 0 _ av _ 49 [] (by decide) W h.out (by simp)
    rw [aw1] at this
    exact this)
  have HGA : Hid (∀ W tb av, Hid (TbIn W tb 0 (.slice none 0 0) [[97], [98]] av) → Calls Try.prog 15 #[.pointer (some ⟨tb, 0, none⟩), .string ⟨#[64]⟩] W fun e w' => e = .returned (.tuple #[.string ⟨#[97, 32, 98]⟩, .bool true]) ∧ Hid (TbIn w' tb 0 (.slice none 0 0) [[97], [98]] av) ∧ Below W.heap.size W w') := Lib.hid (by
    intro W tb av h
    refine (get_all tb 0 _ av _ ⟨#[64]⟩ (.inl rfl) W h.out).mono ?_
    rintro e w' ⟨rfl, hb⟩
    rw [awj]
    exact ⟨rfl, h.out.below hb, hb⟩)
  have HGH : Hid (∀ W tb av, Hid (TbIn W tb 0 (.slice none 0 0) [[97], [98]] av) → Calls Try.prog 15 #[.pointer (some ⟨tb, 0, none⟩), .string ⟨#[35]⟩] W fun e w' => e = .returned (.tuple #[.string ⟨#[50]⟩, .bool true]) ∧ Hid (TbIn w' tb 0 (.slice none 0 0) [[97], [98]] av) ∧ Below W.heap.size W w') := Lib.hid (by
    intro W tb av h
    refine (get_hash tb 0 _ av _ W h.out).mono ?_
    rintro e w' ⟨rfl, hb⟩
    rw [awn]
    exact ⟨rfl, h.out.below hb, hb⟩)
  have HSH : Hid (∀ W tb av, Hid (TbIn W tb 0 (.slice none 0 0) [[97], [98]] av) → Calls Try.prog 26 #[.pointer (some ⟨tb, 0, none⟩), .int .i64 1] W fun e w' => e = .returned (.bool true) ∧ ∃ av', Hid (TbIn w' tb 0 (.slice none 0 0) [[98]] av') ∧ Kept (· = tb) W w') := Lib.hid (by
    intro W tb av h
    refine (shift_ok tb 0 _ av _ 1 W h.out (by decide)).mono ?_
    rintro e w' ⟨rfl, av', h1, _, h2⟩
    exact ⟨rfl, av', h1, h2⟩)
  obtain ⟨tb, htb⟩ : ∃ tb, w.heap.size + 1 = tb := ⟨_, rfl⟩
  rw [htb] at HN
  have HTB := Lib.hid htb
  clear htb
  go_enter Try.func8, Try.ntmps8
  go_wp2_with fail
  refine (HN.out _ rfl).mono ?_
  rintro e W1 ⟨av, rfl, h1, hb⟩
  have T1 := Lib.hid h1
  have B1 := Lib.hid hb
  clear h1 hb
  go_wp2_with fail
  refine (HG2.out _ _ _ T1).mono ?_
  rintro e W2 ⟨rfl, rfl⟩
  go_wp2_with fail
  refine (HGA.out _ _ _ T1).mono ?_
  rintro e W3 ⟨rfl, T3, hb⟩
  have B3 := Lib.hid hb
  clear hb
  go_wp2_with fail
  refine (HGH.out _ _ _ T3).mono ?_
  rintro e W4 ⟨rfl, T4, hb⟩
  have B4 := Lib.hid hb
  clear hb
  go_wp2_with fail
  refine (HSH.out _ _ _ T4).mono ?_
  rintro e W5 ⟨rfl, av5, T5, hb⟩
  have B5 := Lib.hid hb
  clear hb
  go_wp2_with fail
  refine (HG1.out _ _ _ T5).mono ?_
  rintro e W6 ⟨rfl, rfl⟩
  go_wp2_with fail
  go_ret
  refine ⟨rfl, ?_⟩
  have hs1 := B1.out.size
  have hs3 := B3.out.size
  have hs4 := B4.out.size
  have hh := HTB.out
  exact ((B1.out.trans (B3.out.mono hs1)).trans (B4.out.mono (by omega))).trans (B5.out.below (by omega) (by rintro k rfl; omega))
end Go.Proofs.Ytdegkfnlafgheaa.Vr
